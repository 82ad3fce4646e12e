/-
  BackTable of the program: how it ends; both answer alike. Used by the claims on chapter 2.
-/
import Derived.Test.YtfjedcjpgmledaaBackS
import Derived.Test.YtfjedcjpgmledaaRevB
import Derived.Laws.IdiomStrings
namespace Go.Proofs.Ytfjedcjpgmledaa
open Go.RowKit
set_option linter.unusedVariables false

theorem bytes_new (x : ByteArray) (w : World) : ∃ capb wC, (convert 9 22 (.string x)).run Try.prog w = .ok (.slice (some ⟨w.heap.size, 0, none⟩) x.size capb) wC ∧ ByR wC w.heap.size (bl x) ∧ Below w.heap.size w wC ∧ wC.heap.size = w.heap.size + 1 := by
  refine ⟨_, _, run_bytes_of_string w 9 22 5 x Try.underlying9 Try.underlying22 Try.underlying5, ⟨fun t c hc => ?_, fun t ht => ?_⟩, (Below.refl _ _).drew.alloc (Nat.le_refl _) _, by simp⟩
  · have hh := heap_alloc_new w.drew (.cells (bytesRow x (grownCap w x.size 0 5)) 5 ((bytesRow x (grownCap w x.size 0 5)).size, (bytesRow x (grownCap w x.size 0 5)).size + 1))
    have hc2 : x.data[t]? = some c := by rw [← Array.getElem?_toList]; exact hc
    have hlt : t < x.data.size := (Array.getElem?_eq_some_iff.1 hc2).1
    have hbr : (bytesRow x (grownCap w x.size 0 5))[t]? = some (.int .u8 (c.toNat : Int)) := by
      unfold bytesRow
      rw [Array.getElem?_append_left (by simpa using hlt), Array.getElem?_map, hc2]; rfl
    exact (World.cell?_alloc_mark w.drew _ _ _ t).trans hbr
  · have hh := heap_alloc_new w.drew (.cells (bytesRow x (grownCap w x.size 0 5)) 5 ((bytesRow x (grownCap w x.size 0 5)).size, (bytesRow x (grownCap w x.size 0 5)).size + 1))
    have hh2 : (w.drew.alloc (.cells (bytesRow x (grownCap w x.size 0 5)) 5 ((bytesRow x (grownCap w x.size 0 5)).size, (bytesRow x (grownCap w x.size 0 5)).size + 1))).heap[w.heap.size]? = _ := hh
    simp only [World.frozen?, hh2, Bool.and_eq_true, decide_eq_true_eq] at ht
    have h2 : x.size ≤ (bytesRow x (grownCap w x.size 0 5)).size := by unfold bytesRow; simp
    rw [bl_len]
    omega
theorem back_conv (w5 : World) (g capb : Nat) (x : ByteArray) (h : ByR w5 g (bl x).reverse) : (convert 22 9 (.slice (some ⟨g, 0, none⟩) x.size capb)).run Try.prog w5 = .ok (.string (ba (bl x).reverse)) w5 := by
  have := run_convert_bytes_back (P := Try.prog) w5 22 9 5 ⟨g, 0, none⟩ capb (bl x).reverse Try.underlying22 Try.underlying5 Try.underlying9 (fun j hj => by
    rw [Addr.add_lit, Nat.zero_add]
    exact h.1 j _ (List.getElem?_eq_getElem hj))
  rw [List.length_reverse, bl_len] at this
  exact this

set_option maxHeartbeats 4000000 in
set_option maxRecDepth 20000 in
theorem backT_any (a : Option Addr) (b o c : Nat) (xs : List ByteArray) (w : World) (h : ListIn w a b o xs) :
    Calls Try.prog 24 #[.agg #[.slice a xs.length c]] w (TabOut (turnT List.reverse xs) (tableB xs) w) := by
  have hl := h.len
  have hbx := (below_alloc w (.cells #[.slice a xs.length c] 26)).alloc (by simp) (.cells #[.slice none 0 0] 26)
  have F := Lib.hid fun o1 o2 => isTable_any a b o c xs ((w.alloc o1).alloc o2) (h.below ((below_alloc w o1).alloc (by simp) o2))
  have HS := Lib.hid h
  clear h
  have k0 := (Boxed.new w 26 (.slice a xs.length c)).alloc (.cells #[.slice none 0 0] 26)
  have k1 := Boxed.new (w.alloc (.cells #[.slice a xs.length c] 26)) 26 (.slice none 0 0)
  have e1 : (w.alloc (.cells #[.slice a xs.length c] 26)).heap.size = w.heap.size + 1 := by simp
  have e2 : ((w.alloc (.cells #[.slice a xs.length c] 26)).alloc (.cells #[.slice none 0 0] 26)).heap.size = w.heap.size + 2 := by simp
  rw [e1] at k1
  have K := Lib.hid (And.intro k0 (And.intro k1 (And.intro e2 hbx)))
  clear k0 k1 e1 e2 hbx
  by_cases ht : tableB xs = true
  · have F2 := Lib.hid fun o1 o2 => val_eq (v' := .bool true) (F.out o1 o2) (by rw [ht])
    have h0 : 0 < xs.length := ((tableB_iff xs).1 ht).1.1
    have h10 : xs.length ≤ 10 := ((tableB_iff xs).1 ht).1.2
    obtain rfl := HS.out.src.1 h0
    have HT : Hid (turnT List.reverse xs = xs.map (fun x => ba (List.reverse (bl x))) ∧ tableB xs = true) := Lib.hid ⟨turn_yes ht, ht⟩
    have HSz := Lib.hid ((tableB_iff xs).1 ht).2.1
    obtain ⟨i0, hi, hz0, hz1, hz2⟩ := info_parts infoStr
    clear ht F
    go_enter Try.func24, Try.ntmps24
    go_wp2_with fail
    refine (F2.out _ _).mono ?_
    rintro e w1 ⟨rfl, hb⟩
    rw [K.out.2.2.1] at hb
    have hB1 := boxed_below K.out.1 hb (by omega)
    have hR1 := boxed_below K.out.2.1 hb (by omega)
    have hsz : w.heap.size + 2 ≤ w1.heap.size := Nat.le_trans (by rw [K.out.2.2.1]; exact Nat.le_refl _) hb.size
    have hbl : Below w.heap.size w w1 := K.out.2.2.2.trans (hb.mono (by omega))
    have hXc := (hB1.alloc (.cells #[.slice none 0 0] 26)).cell
    have hm0 : (w1.alloc (Obj.cells #[.slice none 0 0] 26)).ownsRow (w.heap.size + 2) 9 1 (.slice none 0 0) 0 (trn List.reverse []) := ⟨by simp [trn], .inl ⟨rfl, rfl⟩⟩
    have hT1 := Boxed.new w1 26 (.slice none 0 0)
    have H1 := Lib.hid (And.intro hR1 (And.intro hbl (And.intro hm0 hT1)))
    clear hB1 hR1 hbl hm0 hT1 hb
    go_wp2
    go_loopw [16] (fun v wr => ∃ (k : Nat) (av : Option Addr) (cap : Nat), v = .int .i64 k ∧ k ≤ xs.length ∧ Boxed wr w1.heap.size 26 (.slice av k cap) ∧ wr.ownsRow (w.heap.size + 2) 9 1 (.slice av k cap) k (trn List.reverse (xs.take k)) ∧ Hid (Boxed wr (w.heap.size + 1) 26 (.slice none 0 0)) ∧ Hid (Below w.heap.size w wr)) (fun v wr => xs.length - (intOf v).toNat)
    case atStart => exact ⟨0, none, 0, rfl, Nat.zero_le _, H1.out.2.2.2, H1.out.2.2.1, Lib.hid (H1.out.1.alloc _), Lib.hid (H1.out.2.1.alloc H1.out.2.1.size _)⟩
    case round =>
      obtain ⟨k, av, cap, rfl, hk, hT, hown, HR, HB⟩ := hrel
      have hTc := hT.cell
      by_cases hlt : k < xs.length
      · have hxc : wr.cell? ⟨b, o + k, none⟩ = some (.string xs[k]) := (HS.out.below HB.out).src.2 k _ (List.getElem?_eq_getElem hlt)
        have HTk : Hid (xs.take (k + 1) = xs.take k ++ [xs[k]]) := Lib.hid (by rw [List.take_add_one, List.getElem?_eq_getElem hlt]; rfl)
        have hxm : marksL (bl xs[k]) = true := HSz.out _ (List.getElem_mem hlt)
        generalize xs[k] = x at hxc HTk hxm
        have h1m : 1 ≤ (bl x).length ∧ (bl x).length ≤ 5 := by
          have := hxm
          simp only [marksL, Bool.and_eq_true, decide_eq_true_eq] at this
          exact this.1
        obtain ⟨capb, wC, hcv, hby0, hbC, hzC⟩ := bytes_new x wr
        have HC := Lib.hid (reverse_any wr.heap.size capb (bl x) wC (by omega) (by omega) hby0)
        rw [bl_len] at HC
        have HBC := Lib.hid (And.intro hbC hzC)
        clear hby0 hbC hzC h1m
        have i0' : (0 : Int) ≤ (k : Int) := by omega
        have i1' : (k : Int) < (xs.length : Int) := by omega
        have HN : Hid (trn List.reverse (xs.take (k + 1)) = trn List.reverse (xs.take k) ++ [.string (ba (List.reverse (bl x)))]) := Lib.hid (by rw [HTk.out, trn_snoc])
        have hszw := HB.out.size
        have hHT : w1.heap.size < wr.heap.size := World.block_lt_of_cell? _ _ hTc
        clear hxm
        go_wp2_with fail
        refine HC.out.mono ?_
        rintro e w5 ⟨⟨_, rfl⟩, hby, hg5⟩
        have hb5 : Below wr.heap.size wr w5 := HBC.out.1.grown hg5 (by have := HBC.out.2; omega) (fun j e => by cases e; exact Nat.le_refl _)
        have hcv2 := back_conv w5 wr.heap.size capb x hby
        have hT5 := boxed_below hT hb5 hHT
        have hT5c := hT5.cell
        have hT5d := (hT5.alloc (.cells #[.string (ba (List.reverse (bl x)))] 9)).cell
        have hR5 := boxed_below HR.out hb5 (Nat.lt_of_lt_of_le (by omega) hHT)
        have hB5 := HB.out.trans (hb5.mono hszw)
        have hown5 := row_below hown hb5
        have hsz5 : wr.heap.size ≤ w5.heap.size := hb5.size
        obtain ⟨y, hy⟩ : ∃ y, y = ba (List.reverse (bl x)) := ⟨_, rfl⟩
        rw [← hy] at HN hcv2 hT5d
        clear hy hby hg5 hb5
        go_wp2_with (at_builtin; refine wpList_append_lies _ rfl _ _ _ rfl (w.heap.size + 2) 9 i0 _ 1 16 Try.underlying24 hi hz0 hz1 hz2 rfl (by omega) (.slice av k cap) k (trn List.reverse (xs.take k)) (by rfl) (hown5.alloc _) ⟨w5.heap.size, 0, none⟩ 1 1 [.string y] (by rfl) (by rfl) (World.news_of_block (cs := #[.string y]) (t := 9) (fr := (0, 0)) (heap_alloc_new w5 _)) (by simp [Value.oneCell']) (by omega) (by unfold maxLen; omega) (by omega) (by simp; omega) (w5.heap.size + 1) (by simp) ?_; intro gg capg w4 hown4 hgrow hat hglt; obtain ⟨hT4, hX4, hB4⟩ := grow_facts2 hT5 hR5 hB5 hown5 hgrow; have hT4c := hT4.cell; have hT4f := hT4.frozen)
        all_goals (
          have HQ : Hid (Boxed (w4.setCell ⟨w1.heap.size, 0, none⟩ (.slice (some ⟨gg, 0, none⟩) (k + 1) capg)) w1.heap.size 26 (.slice (some ⟨gg, 0, none⟩) (k + 1) capg) ∧ (w4.setCell ⟨w1.heap.size, 0, none⟩ (.slice (some ⟨gg, 0, none⟩) (k + 1) capg)).ownsRow (w.heap.size + 2) 9 1 (.slice (some ⟨gg, 0, none⟩) (k + 1) capg) (k + 1) (trn List.reverse (xs.take (k + 1))) ∧ Hid (Boxed (w4.setCell ⟨w1.heap.size, 0, none⟩ (.slice (some ⟨gg, 0, none⟩) (k + 1) capg)) (w.heap.size + 1) 26 (.slice none 0 0)) ∧ Hid (Below w.heap.size w (w4.setCell ⟨w1.heap.size, 0, none⟩ (.slice (some ⟨gg, 0, none⟩) (k + 1) capg)))) := Lib.hid ⟨hT4.set _, by
              rw [HN.out]
              exact hown4.kept (grownBy_setCell' w4 _ _) (.inr (box_apart hown4 hT4 (by decide)).symm), Lib.hid (boxed_set hX4 (by omega)), Lib.hid (hB4.setCell (p := ⟨w1.heap.size, 0, none⟩) (by simp; omega) _)⟩
          clear hX4 hB4 hown4 hgrow hat hglt hT4 hT4c hT4f hown hT hTc hxc HC HTk
          go_wp2
          go_roundw
          case rel => exact ⟨k + 1, some ⟨gg, 0, none⟩, capg, by go_num, by omega, HQ.out.1, HQ.out.2.1, HQ.out.2.2.1, HQ.out.2.2.2⟩
          case measure => simp [intOf]; omega)
      · obtain rfl : k = xs.length := by omega
        have hrc := HR.out.cell
        have hrf := HR.out.frozen
        go_wp2
        refine bodyPost_ret (res_tab2 rfl _ rfl (HR.out.set _)) rfl ?_
        rw [HT.out.1, HT.out.2]
        have hown2 : wr.ownsRow (w.heap.size + 2) 9 1 (.slice av (xs.map (fun x => ba (List.reverse (bl x)))).length cap) (xs.map (fun x => ba (List.reverse (bl x)))).length ((xs.map (fun x => ba (List.reverse (bl x)))).map Value.string) := by
          rw [List.length_map, List.map_map]
          rw [List.take_length] at hown
          exact hown
        obtain ⟨g, cap', hv, hgb, _, hsrc, hopen⟩ := row_src hown2 (by rw [List.length_map]; exact h0)
        injection hv with hv1 _ hv3
        subst hv1
        refine ⟨_, g, cap, by rw [List.length_map]; rfl, ?_, fun _ => by omega, fun j hj => ?_, HB.out.setCell (p := ⟨w.heap.size + 1, 0, none⟩) (by simp) _⟩
        · refine ⟨fun _ => rfl, fun j x hx => ?_⟩
          rw [World.cell?_setCell_other _ _ _ _ (by intro e; have e2 := congrArg Addr.block e; simp only at e2; omega)]
          exact hsrc.2 j x hx
        · rw [World.frozen?_setCell]
          exact hopen j hj
  · have F2 := Lib.hid fun o1 o2 => val_eq (v' := .bool false) (F.out o1 o2) (by simp [ht])
    have HT : Hid (turnT List.reverse xs = [] ∧ tableB xs = false) := Lib.hid (by
      have h1 : tableB xs = false := by simpa using ht
      exact ⟨turn_no h1, h1⟩)
    clear ht F
    go_enter Try.func24, Try.ntmps24
    go_wp2_with fail
    refine (F2.out _ _).mono ?_
    rintro e w1 ⟨rfl, hb⟩
    rw [K.out.2.2.1] at hb
    have hR1 := boxed_below K.out.2.1 hb (by omega)
    have hrc := hR1.cell
    have hrf := hR1.frozen
    have H1 := Lib.hid (And.intro hR1 (K.out.2.2.2.trans (hb.mono (by omega))))
    clear hb hR1
    go_wp2
    refine bodyPost_ret (res_tab2 rfl _ rfl (H1.out.1.set _)) rfl ?_
    rw [HT.out.1, HT.out.2]
    exact tabOut_none (H1.out.2.setCell (p := ⟨w.heap.size + 1, 0, none⟩) (by simp) _)

theorem backTable_both (xs : List ByteArray) (hl : xs.length ≤ 1048576) (ht : ∀ x ∈ xs, x.size ≤ 1048576) : ∃ (ys : List ByteArray) (R1 : Bool), ys.length ≤ 10 ∧
    Hid (∀ W a b o c, ListIn W a b o xs → xs.length ≤ c → Calls Try.prog 25 #[.agg #[.slice a xs.length c]] W (TabOut ys R1 W)) ∧
    Hid (∀ W a b o c, ListIn W a b o xs → xs.length ≤ c → Calls Try.prog 24 #[.agg #[.slice a xs.length c]] W (TabOut ys R1 W)) :=
  ⟨turnT List.reverse xs, tableB xs, turnT_len List.reverse xs, fun W a b o c h _ => sBackT_any a b o c xs W h, fun W a b o c h _ => backT_any a b o c xs W h⟩
end Go.Proofs.Ytfjedcjpgmledaa
