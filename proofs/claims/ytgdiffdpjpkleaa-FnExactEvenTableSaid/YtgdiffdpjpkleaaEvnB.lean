/-
  EvenTable of the program: how it ends. Used by the claims on chapter 6.
-/
import Derived.Test.YtgdiffdpjpkleaaEvnW
namespace Go.Proofs.Ytgdiffdpjpkleaa
open Go.RowKit
set_option linter.unusedVariables false

/-- A box and a row lie in different blocks. -/
theorem box_apart {w : World} {b n : Nat} {t e : TypeId} {size k : Nat} {v u : Value} {xs : List Value} (h : w.ownsRow b e size v k xs) (hx : Boxed w n t u) (hne : e ≠ t) : some n ≠ v.ownBlock := by
  rcases h.2 with ⟨rfl, _⟩ | ⟨g, cap, cur, rfl, hg, hh, _⟩
  · simp [Value.ownBlock]
  · intro q
    simp [Value.ownBlock] at q
    subst q
    have h2 : w.heap[n]? = some _ := hx
    rw [h2] at hh
    have := Option.some.inj hh
    injection this with _ h3 _
    exact hne h3.symm
theorem grow_facts2 {w wr w4 : World} {av : Option Addr} {k cap H : Nat} {y v u : Value} {l : List Value} (hT : Boxed wr H 32 v) (hX : Boxed wr (w.heap.size + 1) 32 u) (hB : Below w.heap.size w wr) (hown : wr.ownsRow (w.heap.size + 2) 9 1 (.slice av k cap) k l) (hgrow : (wr.alloc (.cells #[y] 9)).grownBy w4 (Value.slice av k cap).ownBlock) : Boxed w4 H 32 v ∧ Boxed w4 (w.heap.size + 1) 32 u ∧ Below w.heap.size w w4 :=
  ⟨(hT.alloc _).kept hgrow (box_apart hown hT (by decide)), (hX.alloc _).kept hgrow (box_apart hown hX (by decide)), (hB.alloc hB.size _).grown hgrow (by have := hB.size; simp; omega) (fun j e => by have := (hown.lt j e).1; omega)⟩
theorem row_srcT {w : World} {base : Nat} {v : Value} {n : Nat} {ys : List ByteArray} (h : w.ownsRow base 9 1 v n (ys.map Value.string)) (hn : n = ys.length) : ∃ a g cap, v = .slice a n cap ∧ (0 < ys.length → base ≤ g) ∧ Src w a g 0 ys ∧ (∀ j, j < ys.length → w.frozen? ⟨g, j, none⟩ = false) := by
  obtain ⟨a, g, c, hv, hs, hg, hf⟩ := seq_of_row h
  refine ⟨a, g, c, hv, fun h0 => hg (by simpa using h0), ⟨fun h0 => hs.1 (by simpa using h0), fun j x hx => ?_⟩, fun j hj => hf j (by simpa using hj)⟩
  rw [Nat.zero_add]
  exact hs.2 j _ (by simp [hx])
def trE (xs : List ByteArray) : List Value := (evenB xs).map Value.string
theorem trE_nil : trE [] = [] := rfl

set_option maxHeartbeats 8000000 in
set_option maxRecDepth 20000 in
theorem evenT_any (a : Option Addr) (b o c : Nat) (xs : List ByteArray) (w : World) (h : ListIn w a b o xs) :
    Calls Try.prog 52 #[.agg #[.slice a xs.length c]] w (TabOut (evT xs) (evOk xs) w) := by
  have hl := h.len
  have hbx := (below_alloc w (.cells #[.slice a xs.length c] 32)).alloc (by simp) (.cells #[.slice none 0 0] 32)
  have F := Lib.hid fun o1 o2 => isTable_any a b o c xs ((w.alloc o1).alloc o2) (h.below ((below_alloc w o1).alloc (by simp) o2))
  have HS := Lib.hid h
  clear h
  have k0 := (Boxed.new w 32 (.slice a xs.length c)).alloc (.cells #[.slice none 0 0] 32)
  have k1 := Boxed.new (w.alloc (.cells #[.slice a xs.length c] 32)) 32 (.slice none 0 0)
  have e1 : (w.alloc (.cells #[.slice a xs.length c] 32)).heap.size = w.heap.size + 1 := by simp
  have e2 : ((w.alloc (.cells #[.slice a xs.length c] 32)).alloc (.cells #[.slice none 0 0] 32)).heap.size = w.heap.size + 2 := by simp
  rw [e1] at k1
  have K := Lib.hid (And.intro k0 (And.intro k1 (And.intro e2 hbx)))
  clear k0 k1 e1 e2 hbx
  by_cases ht : tableB xs = true
  · have F2 := Lib.hid fun o1 o2 => val_eq (v' := .bool true) (F.out o1 o2) (by rw [ht])
    have h0 : 0 < xs.length := ((tableB_iff xs).1 ht).1.1
    have h10 : xs.length ≤ 10 := ((tableB_iff xs).1 ht).1.2
    obtain rfl := HS.out.src.1 h0
    have HOk : Hid (evOk xs = tableB (evenB xs)) := Lib.hid (by unfold evOk; rw [ht, Bool.true_and])
    have H5 := Lib.hid (marks5 ht)
    obtain ⟨i0, hi, hz0, hz1, hz2⟩ := info_parts infoStr
    clear ht F
    go_enter Try.func52, Try.ntmps52
    go_wp2_with fail
    refine (F2.out _ _).mono ?_
    rintro e w1 ⟨rfl, hb⟩
    rw [K.out.2.2.1] at hb
    have hB1 := boxed_below K.out.1 hb (by omega)
    have hR1 := boxed_below K.out.2.1 hb (by omega)
    have hsz : w.heap.size + 2 ≤ w1.heap.size := Nat.le_trans (by rw [K.out.2.2.1]; exact Nat.le_refl _) hb.size
    have hbl : Below w.heap.size w w1 := K.out.2.2.2.trans (hb.mono (by omega))
    have hXc := (hB1.alloc (.cells #[.slice none 0 0] 32)).cell
    have hm0 : (w1.alloc (Obj.cells #[.slice none 0 0] 32)).ownsRow (w.heap.size + 2) 9 1 (.slice none 0 0) 0 (trE []) := ⟨by simp [trE, evenB], .inl ⟨rfl, rfl⟩⟩
    have hT1 := Boxed.new w1 32 (.slice none 0 0)
    have H1 := Lib.hid (And.intro hR1 (And.intro hbl (And.intro hm0 hT1)))
    clear hB1 hR1 hbl hm0 hT1 hb
    go_wp2
    go_loopw [15] (fun v wr => ∃ (k : Nat) (av : Option Addr) (cap : Nat), v = .int .i64 k ∧ k ≤ xs.length ∧ Boxed wr w1.heap.size 32 (.slice av k cap) ∧ wr.ownsRow (w.heap.size + 2) 9 1 (.slice av k cap) k (trE (xs.take k)) ∧ Hid (Boxed wr (w.heap.size + 1) 32 (.slice none 0 0)) ∧ Hid (Below w.heap.size w wr)) (fun v wr => xs.length - (intOf v).toNat)
    case atStart => exact ⟨0, none, 0, rfl, Nat.zero_le _, H1.out.2.2.2, H1.out.2.2.1, Lib.hid (H1.out.1.alloc _), Lib.hid (H1.out.2.1.alloc H1.out.2.1.size _)⟩
    case round =>
      obtain ⟨k, av, cap, rfl, hk, hT, hown, HR, HB⟩ := hrel
      have hTc := hT.cell
      by_cases hlt : k < xs.length
      · have hxc : wr.cell? ⟨b, o + k, none⟩ = some (.string xs[k]) := (HS.out.below HB.out).src.2 k _ (List.getElem?_eq_getElem hlt)
        have HTk := Lib.hid (evenB_take xs k _ (List.getElem?_eq_getElem hlt))
        have hx5 := H5.out _ (List.getElem_mem hlt)
        generalize xs[k] = x at hxc HTk hx5
        have HC := Lib.hid fun w => evenMarks_any x w hx5
        have i0' : (0 : Int) ≤ (k : Int) := by omega
        have i1' : (k : Int) < (xs.length : Int) := by omega
        have HN : Hid (trE (xs.take (k + 1)) = trE (xs.take k) ++ [.string (ba (evenL (bl x)))]) := Lib.hid (by unfold trE; rw [HTk.out, List.map_append]; rfl)
        have hszw := HB.out.size
        have hHT : w1.heap.size < wr.heap.size := World.block_lt_of_cell? _ _ hTc
        obtain ⟨y, hy⟩ : ∃ y, y = ba (evenL (bl x)) := ⟨_, rfl⟩
        rw [← hy] at HC HN
        clear hy hx5
        have hTf := hT.frozen
        have q1 : k + 1 ≤ maxLen := by unfold maxLen; omega
        have q2 : (k + 1) * 16 ≤ 140737488355328 := by omega
        have q3 : w.heap.size + 2 ≤ wr.heap.size := by omega
        go_wp2_with fail
        go_region_law
          ((first
            | (refine step_append_lies _ (by rfl) _ _ _ (by rfl) (w.heap.size + 2) 9 i0 _ 1 16 Try.underlying25 hi hz0 hz1 hz2 rfl (by omega) (.slice av k cap) k (trE (xs.take k)) (by rfl) ((hown.alloc _).drew)
                ⟨wr.heap.size, 0, none⟩ 1 1 [.string y] (by rfl) (by rfl) (World.news_of_block (cs := #[.string y]) (t := 9) (fr := (0, 0)) (heap_alloc_new wr _)) (by simp [Value.oneCell'])
                (by omega) q1 q2 (Nat.le_trans q3 (below_alloc wr _).size) (wr.heap.size + 1) (by simp) ?_; intro gg capg w4 hown4 hgrow hat hglt; obtain ⟨hT4, hX4, hB4⟩ := grow_facts2 (wr := wr.drew) hT HR.out HB.out.drew hown hgrow; have hT4c := hT4.cell; have hT4f := hT4.frozen)
            | (go_simp; go_at_call 101; refine (HC.out _).mono ?_; rintro e w' ⟨rfl, hww⟩; obtain rfl := hww.symm)))
        all_goals (
          have HQ : Hid (Boxed (w4.setCell ⟨w1.heap.size, 0, none⟩ (.slice (some ⟨gg, 0, none⟩) (k + 1) capg)) w1.heap.size 32 (.slice (some ⟨gg, 0, none⟩) (k + 1) capg) ∧ (w4.setCell ⟨w1.heap.size, 0, none⟩ (.slice (some ⟨gg, 0, none⟩) (k + 1) capg)).ownsRow (w.heap.size + 2) 9 1 (.slice (some ⟨gg, 0, none⟩) (k + 1) capg) (k + 1) (trE (xs.take (k + 1))) ∧ Hid (Boxed (w4.setCell ⟨w1.heap.size, 0, none⟩ (.slice (some ⟨gg, 0, none⟩) (k + 1) capg)) (w.heap.size + 1) 32 (.slice none 0 0)) ∧ Hid (Below w.heap.size w (w4.setCell ⟨w1.heap.size, 0, none⟩ (.slice (some ⟨gg, 0, none⟩) (k + 1) capg)))) := Lib.hid ⟨hT4.set _, by
              rw [HN.out]
              exact hown4.kept (grownBy_setCell' w4 _ _) (.inr (box_apart hown4 hT4 (by decide)).symm), Lib.hid (boxed_set hX4 (by omega)), Lib.hid (hB4.setCell (p := ⟨w1.heap.size, 0, none⟩) (by simp; omega) _)⟩
          clear hX4 hB4 hown4 hgrow hat hglt hT4 hT4c hT4f hown hT hTc hTf hxc HC HTk
          go_wp2
          go_roundw
          case rel => exact ⟨k + 1, some ⟨gg, 0, none⟩, capg, by go_num, by omega, HQ.out.1, HQ.out.2.1, HQ.out.2.2.1, HQ.out.2.2.2⟩
          case measure => simp [intOf]; omega)
      · obtain rfl : k = xs.length := by omega
        rw [List.take_length] at hown
        have hown2 : wr.ownsRow (w.heap.size + 2) 9 1 (.slice av xs.length cap) xs.length ((evenB xs).map Value.string) := hown
        obtain ⟨a2, g2, c2, hv2, hg2, hs2, hf2⟩ := row_srcT hown2 (evenB_len xs).symm
        injection hv2 with hv1 _ hv3
        subst hv1; subst hv3
        have HLi : Hid (ListIn wr av g2 0 (evenB xs)) := Lib.hid ⟨hs2, by rw [evenB_len]; omega, evenB_small H5.out⟩
        have HG := Lib.hid (isTable_any av g2 0 cap (evenB xs) wr HLi.out)
        rw [evenB_len] at HG
        have HF2 := Lib.hid hf2
        have HGe := Lib.hid hg2
        have HZ1 := Lib.hid hsz
        clear hown hown2 hs2 hf2 hg2
        cases hq : tableB (evenB xs) with
        | true =>
          rw [hq] at HG
          have HT : Hid (evT xs = evenB xs ∧ evOk xs = true) := Lib.hid (by
            have h1 : evOk xs = true := by rw [HOk.out, hq]
            exact ⟨if_pos h1, h1⟩)
          clear hq
          go_wp2_with fail
          refine HG.out.mono ?_
          rintro e w5 ⟨rfl, hb⟩
          have hT5 := boxed_below hT hb (World.block_lt_of_cell? _ _ hTc)
          have hR5 := boxed_below HR.out hb (Nat.lt_trans (show w.heap.size + 1 < w1.heap.size by omega) (World.block_lt_of_cell? _ _ hTc))
          have HB5 := Lib.hid (HB.out.trans (hb.mono HB.out.size))
          have hT5c := hT5.cell
          have hrc := hR5.cell
          have hrf := hR5.frozen
          have HR5 := Lib.hid hR5
          have HL5 := Lib.hid (HLi.out.src.below hb)
          have HF5 : Hid (∀ j, j < (evenB xs).length → w5.frozen? ⟨g2, j, none⟩ = false) := Lib.hid fun j hj => (hb.frozen (p := ⟨g2, j, none⟩) (src_lt HLi.out.src (by omega))).trans (HF2.out j hj)
          clear hb hT hTc hT5 hR5
          go_wp2
          refine bodyPost_ret (res_tab2 rfl _ rfl (HR5.out.set _)) rfl ?_
          rw [HT.out.1, HT.out.2]
          refine ⟨av, g2, cap, by rw [evenB_len]; rfl, ?_, fun h => Nat.le_trans (by omega) (HGe.out h), fun j hj => ?_, HB5.out.setCell (p := ⟨w.heap.size + 1, 0, none⟩) (by simp) _⟩
          · refine ⟨HL5.out.1, fun j x hx => ?_⟩
            have hgg := HGe.out (by have := (List.getElem?_eq_some_iff.1 hx).1; omega)
            rw [World.cell?_setCell_other _ _ _ _ (by intro e; have e2 := congrArg Addr.block e; simp only at e2; omega)]
            exact HL5.out.2 j x hx
          · rw [World.frozen?_setCell]
            exact HF5.out j hj
        | false =>
          rw [hq] at HG
          have HT : Hid (evT xs = [] ∧ evOk xs = false) := Lib.hid (by
            have h1 : evOk xs = false := by rw [HOk.out, hq]
            exact ⟨if_neg (by rw [h1]; simp), h1⟩)
          clear hq
          go_wp2_with fail
          refine HG.out.mono ?_
          rintro e w5 ⟨rfl, hb⟩
          have hR5 := boxed_below HR.out hb (Nat.lt_trans (show w.heap.size + 1 < w1.heap.size by omega) (World.block_lt_of_cell? _ _ hTc))
          have HB5 := Lib.hid (HB.out.trans (hb.mono HB.out.size))
          have hrc := hR5.cell
          have hrf := hR5.frozen
          have HR5 := Lib.hid hR5
          clear hb hT hTc hR5
          go_wp2
          refine bodyPost_ret (res_tab2 rfl _ rfl (HR5.out.set _)) rfl ?_
          rw [HT.out.1, HT.out.2]
          exact tabOut_none (HB5.out.setCell (p := ⟨w.heap.size + 1, 0, none⟩) (by simp) _)
  · have F2 := Lib.hid fun o1 o2 => val_eq (v' := .bool false) (F.out o1 o2) (by simp [ht])
    have HT : Hid (evT xs = [] ∧ evOk xs = false) := Lib.hid (by
      have h1 : evOk xs = false := by unfold evOk; simp [ht]
      exact ⟨if_neg (by rw [h1]; simp), h1⟩)
    clear ht F
    go_enter Try.func52, Try.ntmps52
    go_wp2_with fail
    refine (F2.out _ _).mono ?_
    rintro e w1 ⟨rfl, hb⟩
    rw [K.out.2.2.1] at hb
    have hR1 := boxed_below K.out.2.1 hb (by omega)
    have hrc := hR1.cell
    have hrf := hR1.frozen
    have H1 := Lib.hid (And.intro hR1 (K.out.2.2.2.trans (hb.mono (by omega))))
    clear hb hR1
    go_wp2
    refine bodyPost_ret (res_tab2 rfl _ rfl (H1.out.1.set _)) rfl ?_
    rw [HT.out.1, HT.out.2]
    exact tabOut_none (H1.out.2.setCell (p := ⟨w.heap.size + 1, 0, none⟩) (by simp) _)
end Go.Proofs.Ytgdiffdpjpkleaa
