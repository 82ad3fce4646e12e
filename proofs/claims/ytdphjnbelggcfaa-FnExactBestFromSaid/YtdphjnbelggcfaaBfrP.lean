/-
  bestFrom of the program: the first best marks of a sorted stock. Used by the claims on chapter 8.
-/
import Derived.Test.YtdphjnbelggcfaaBfrW
import Derived.Test.YtdphjnbelggcfaaSwtW
namespace Go.Proofs.Ytdphjnbelggcfaa
open Go.RowKit
set_option linter.unusedVariables false

theorem rowO_made {w : World} {base m : Nat} {v : Value} {xs : List ByteArray} (h : w.ownsRow base 9 1 v m (xs.map Value.string)) (hm : m = xs.length) (h0 : 0 < m) : ∃ B cap, v = .slice (some ⟨B, 0, none⟩) m cap ∧ RowO w B xs ∧ base ≤ B ∧ m ≤ cap ∧ cap ≤ maxLen := by
  have h2 := h
  rcases h.2 with ⟨_, h1⟩ | ⟨g, cap, cur, rfl, hb, hg, h1, h3, _⟩
  · omega
  · obtain ⟨hr, hb⟩ := rowO_of_row h2
    exact ⟨g, cap, rfl, hr, hb, h1, h3⟩
theorem difB_nodup {xs : List ByteArray} (h : xs.Nodup) : DifB xs := fun p q hpq hq => by
  unfold gB
  rw [List.getD_eq_getElem?_getD, List.getD_eq_getElem?_getD, List.getElem?_eq_getElem (by omega), List.getElem?_eq_getElem hq]
  exact (List.pairwise_iff_getElem.1 h) p q (by omega) hq hpq

set_option maxHeartbeats 8000000 in
set_option maxRecDepth 20000 in
theorem bestFrom_any (b o c g c1 n N m : Nat) (xs : List ByteArray) (us : List Nat) (w : World) (hN : N = n + 1) (hm : m = xs.length) (hx : Src w (some ⟨b, o, none⟩) b o xs) (ht : tableB xs = true)
    (hs : ∀ k, k < n + 1 → w.cell? ⟨g, k, none⟩ = some (.int .i64 ((uAt us k : Nat) : Int))) (hu : ∀ k, uAt us k ≤ 99) (hun : us.length = n + 1) (hle : n + 1 ≤ xs.length) :
    Calls Try.prog 112 #[.slice (some ⟨b, o, none⟩) m c, .slice (some ⟨g, 0, none⟩) N c1] w fun e w' => ∃ ys gg cap, e = .returned (.agg #[.slice (some ⟨gg, 0, none⟩) N cap]) ∧ SrtB ys ∧ (∀ x, x ∈ ys ↔ x ∈ xs) ∧ ys.length = xs.length ∧
      Src w' (some ⟨gg, 0, none⟩) gg 0 (fstL ys us) ∧ w.heap.size ≤ gg ∧ (∀ j, j < N → w'.frozen? ⟨gg, j, none⟩ = false) ∧ Below w.heap.size w w' := by
  obtain ⟨hz, hmks, hnd⟩ := (tableB_iff xs).1 ht
  have hgl : g < w.heap.size := World.block_lt_of_cell? _ _ (hs 0 (by omega))
  obtain ⟨w0, hw0⟩ : ∃ w0, w0 = w.alloc (.cells #[.slice none 0 0] 35) := ⟨_, rfl⟩
  have hsz0 : w0.heap.size = w.heap.size + 1 := by rw [hw0]; exact Array.size_push _
  have HBw : Hid (Below w.heap.size w w0) := Lib.hid (by rw [hw0]; exact below_alloc _ _)
  have HB4 : Hid (Boxed w0 w.heap.size 35 (.slice none 0 0)) := Lib.hid (by rw [hw0]; exact Boxed.new w _ _)
  have F1 := Lib.hid (Try.slices_Clone_string b o xs.length c xs w0 (Nat.le_refl _) (by omega) (fun j hj => by
    have h := (hx.below HBw.out).2 j _ (List.getElem?_eq_getElem hj)
    rw [h, List.getD_eq_getElem?_getD, List.getElem?_eq_getElem hj]; rfl))
  have F2 := Lib.hid fun (B cap : Nat) (W : World) (hr : RowO W B xs) => sortByTimes_any B xs.length cap xs W hr rfl hmks (difB_nodup hnd) hz.1 (by omega)
  obtain ⟨P, hP⟩ : ∃ P : Nat → Nat, P = fun k => ((lbw us n)[k]!).val := ⟨_, rfl⟩
  have F3 : Hid (∀ W, Below w.heap.size w W → Calls Try.prog 137 #[.slice (some ⟨g, 0, none⟩) N c1] W fun e w' => ∃ B cap, e = .returned (.slice (some ⟨B, 0, none⟩) N cap) ∧ (∀ k, k < n + 1 → w'.cell? ⟨B, k, none⟩ = some (.int .i64 ((P k : Nat) : Int))) ∧ W.heap.size ≤ B ∧ Below W.heap.size W w') := Lib.hid (by
    intro W hb
    rw [hN, hP]
    exact lettersBy_any g n c1 us W (fun k hk => (hb.cell (p := ⟨g, k, none⟩) hgl).trans (hs k hk)) hu (by omega))
  have HP : Hid (∀ p, p < n + 1 → rk us (P p) = p ∧ P p < n + 1) := Lib.hid (by
    intro p hp
    rw [hP]
    exact ⟨lbw_rk us n hun p hp, ((lbw us n)[p]!).isLt⟩)
  have HPo : Hid (∀ j, j < n + 1 → ∃ k, k < n + 1 ∧ P k = j) := Lib.hid (by
    intro j hj
    rw [hP]
    exact lbw_onto us n j hj)
  rw [← hm] at F1 F2
  have HMk := Lib.hid hmks
  have HZ := Lib.hid hz
  have HM := Lib.hid hm
  have HU := Lib.hid hun
  have HLe := Lib.hid hle
  have HNn := Lib.hid hN
  have hm1 : 1 ≤ m := by omega
  have hm10 : m ≤ 10 := by omega
  have hN10 : N ≤ 10 := by omega
  have hN1 : 1 ≤ N := by omega
  have hmk := run_make_row' (P := Try.prog) 32 3 (.int .i64 0) 8 Try.underlying32 infoIntI rfl .i64 .i64 N (by omega) (by omega)
  obtain ⟨j0, hj, hz0, hz1, hz2⟩ := info_parts infoStr
  clear hx ht hs hu hun hle hz hmks hnd hgl hm hN hP
  go_enter Try.func112, Try.ntmps112
  go_wp2_with fail
  rw [← hw0]
  refine F1.out.mono ?_
  rintro e w1 ⟨v1, rfl, hown1, _, hb1⟩
  have HW1 : Hid (∃ B cap, v1 = .slice (some ⟨B, 0, none⟩) m cap ∧ RowO w1 B xs ∧ w0.heap.size ≤ B ∧ m ≤ cap ∧ cap ≤ maxLen) := Lib.hid (rowO_made (by rw [HM.out, List.take_length] at hown1; rw [HM.out]; exact hown1) HM.out hm1)
  obtain ⟨B, cap, rfl, hr1, hB1, hcap1, hcap2⟩ := HW1.out
  have G2 := Lib.hid (F2.out B cap w1 hr1)
  have HB1 := Lib.hid hb1
  have HBB := Lib.hid hB1
  have HCap := Lib.hid (And.intro hcap1 hcap2)
  clear hown1 hr1 hB1 hcap1 hcap2 hb1 HW1 F1 F2
  go_wp2_with fail
  refine G2.out.mono ?_
  rintro e w2 ⟨rfl, ys, hM2, hS2⟩
  have HM2 := Lib.hid hM2
  have HS2 := Lib.hid hS2
  clear hM2 hS2 G2
  go_wp2_with fail
  have HBl2 : Hid (Below w.heap.size w w2) := Lib.hid (Below.grown' (HBw.out.trans (HB1.out.mono (by omega))) (by have := HB1.out.size; omega) HM2.out.grown (by have := HBB.out; omega))
  obtain ⟨w3, hw3⟩ : ∃ w3, w3 = w2.alloc (Obj.cells (madeCells #[Value.int IntKind.i64 0] N) 3) := ⟨_, rfl⟩
  have hsz3 : w3.heap.size = w2.heap.size + 1 := by rw [hw3]; exact Array.size_push _
  have HB3 : Hid (Below w2.heap.size w2 w3) := Lib.hid (by rw [hw3]; exact below_alloc _ _)
  have HT3 : Hid (∀ k, k < n + 1 → w3.cell? ⟨w2.heap.size, k, none⟩ = some (.int .i64 ((0 : Nat) : Int)) ∧ w3.frozen? ⟨w2.heap.size, k, none⟩ = false) := Lib.hid fun k hk => by
    have hr := World.rowIs_made w2 (.int .i64 0) N 3
    rw [hw3]
    exact ⟨hr.cell (by have := HNn.out; omega), hr.frozen k⟩
  rw [← hw3]
  refine (F3.out w3 (HBl2.out.trans (HB3.out.mono HBl2.out.size))).mono ?_
  rintro e w4 ⟨PB, capP, rfl, hpc, hpb, hb4⟩
  have HP1 : Hid (P1 w w4 w.heap.size B w2.heap.size PB n ys P (fun _ => 0)) := Lib.hid (by
    have hM := HM2.out
    have hxb : w.heap.size < B := by have := HBB.out; omega
    have hB1 := boxed_below HB4.out HB1.out (by omega)
    have hB2 := boxed_grown hB1 hM.grown (by omega)
    have hB3 := boxed_below hB2 HB3.out (boxed_lt hB2)
    have hl2 := hM.row.lt
    exact ⟨boxed_below hB3 hb4 (boxed_lt hB3), (hM.row.below HB3.out).below hb4, fun k hk => ⟨(hb4.cell (p := ⟨w2.heap.size, k, none⟩) (by show w2.heap.size < _; omega)).trans (HT3.out k hk).1, (hb4.frozen (p := ⟨w2.heap.size, k, none⟩) (by show w2.heap.size < _; omega)).trans (HT3.out k hk).2⟩, hpc,
      (HBl2.out.trans (HB3.out.mono HBl2.out.size)).trans (hb4.mono (Nat.le_trans HBl2.out.size HB3.out.size)), by have := hb4.size; omega, Nat.le_refl _, hxb, hl2, by omega⟩)
  have HYl : Hid (ys.length = m ∧ (∀ x, x ∈ ys ↔ x ∈ xs)) := Lib.hid ⟨HM2.out.len, HM2.out.same⟩
  have HYm : Hid (∀ k, k < ys.length → marksL (bl (gB ys k)) = true) := Lib.hid fun k hk => HMk.out _ ((HYl.out.2 _).1 (gB_mem hk))
  clear hpc hpb hb4 hw3 hmk HM2 HB3 HT3 HBl2 hsz3 F3 HB1 HBB HB4 HBw hsz0 hw0
  generalize w2.heap.size = T at HP1 ⊢
  go_wp2
  go_loopw [23] (fun v wr => ∃ (i : Nat) (ts : Nat → Nat), v = .int .i64 (i : Int) ∧ i ≤ N ∧ Hid (P1 w wr w.heap.size B T PB n ys P ts) ∧ Hid (∀ p, p < i → ts (P p) = tAt ys p)) (fun v _ => N - (intOf v).toNat)
  case atStart => exact ⟨0, fun _ => 0, rfl, by omega, HP1, Lib.hid (fun p hp => by omega)⟩
  case round =>
    clear HP1
    obtain ⟨i, ts, rfl, hi, HP1, HT⟩ := hrel
    by_cases hlt : i < N
    · have hin : i < n + 1 := by have := HNn.out; omega
      have him : i < m := by have := HLe.out; have := HNn.out; have := HM.out; omega
      have c1 := HP1.out.pc i hin
      have c2 := HP1.out.row.cell i (by have := HYl.out.1; omega)
      change wr.cell? _ = some (.string (gB ys i)) at c2
      have HC := Lib.hid (timeOf_any (gB ys i) wr (HYm.out i (by have := HYl.out.1; omega)))
      have HE : Hid (tml (bl (gB ys i)) = tAt ys i) := Lib.hid rfl
      have hPi := (HP.out i hin).2
      have HPi := Lib.hid (HP.out i hin)
      have i0 : (0 : Int) ≤ (i : Int) := by omega
      have i1 : (i : Int) < (N : Int) := by omega
      have i2 : (i : Int) < (m : Int) := by omega
      have p0 : (0 : Int) ≤ (P i : Int) := by omega
      have p1 : (P i : Int) < (N : Int) := by have := HNn.out; omega
      generalize gB ys i = x at c2 HC HE
      generalize tml (bl x) = t at HC HE
      obtain ⟨j, hjp⟩ : ∃ j, j = P i := ⟨_, rfl⟩
      rw [← hjp] at c1 hPi p0 p1
      have HJ := Lib.hid hjp
      clear hjp
      go_wp2_with fail
      refine HC.out.mono ?_
      rintro e w5 ⟨rfl, hb5⟩
      have HP5 := Lib.hid (HP1.out.below hb5)
      have c5 := (HP5.out.tc j hPi).1
      have c6 := (HP5.out.tc j hPi).2
      have HP6 := Lib.hid (HP5.out.set (j := j) (v := t) hPi)
      have HT6 : Hid (∀ p, p < i + 1 → (fun k => if k = j then t else ts k) (P p) = tAt ys p) := Lib.hid fun p hp => by
        show (if P p = j then t else ts (P p)) = _
        by_cases e : p = i
        · subst e; rw [if_pos HJ.out.symm]; exact HE.out
        · have hpi : p < i := by omega
          have hne : P p ≠ j := fun h2 => by
            have a1 := (HP.out p (by omega)).1
            have a2 := HPi.out.1
            rw [h2, HJ.out] at a1
            omega
          rw [if_neg hne]; exact HT.out p hpi
      clear hb5 c1 c2
      go_wp2
      go_roundw
      case rel => exact ⟨i + 1, _, by go_num, by omega, HP6, HT6⟩
      case measure => simp [intOf]; omega
    · obtain rfl : N = i := by omega
      have HTs : Hid (∀ k, k < n + 1 → ts k = (bts (tL ys) us).getD k 0) := Lib.hid fun k hk => by
        obtain ⟨q, hq, rfl⟩ := HPo.out k hk
        have hl1 := HYl.out.1; have hl2 := HM.out; have hl3 := HU.out; have hl4 := HLe.out
        rw [time_rk (by omega) (by omega), (HP.out q hq).1]
        exact HT.out q (by have := HNn.out; omega)
      have HSt : Hid (BfI ys us 0 ys []) := Lib.hid (BfI.start (srtB_times HS2.out))
      have HLm0 : Hid (∀ x ∈ ys, marksL (bl x) = true) := Lib.hid fun x hx => HMk.out x ((HYl.out.2 x).1 hx)
      have HP2 : Hid (P2 w (wr.alloc (.cells #[.slice none 0 0] 35)) w.heap.size B T wr.heap.size (wr.heap.size + 1) n 0 (fun k => (bts (tL ys) us).getD k 0) ys [] (.slice none 0 0)) := Lib.hid (by
        have h := HP1.out.below (below_alloc wr (.cells #[.slice none 0 0] 35))
        exact ⟨h.box, h.row, fun k hk => by rw [← HTs.out k hk]; exact (h.tc k hk).1, h.bel, Boxed.new wr _ _, ⟨rfl, .inl ⟨rfl, rfl⟩⟩, by simp, h.bx, h.xb, h.bt, HP1.out.tlt, by omega⟩)
      clear HP1 HT HTs
      go_wp2
      generalize wr.heap.size = H at HP2 ⊢
      generalize wr.alloc (.cells #[.slice none 0 0] 35) = W0 at HP2 ⊢
      go_loopw [5, 40] (fun tv v W => ∃ (i : Nat) (L r : List ByteArray) (rv : Value), tv = .slice (some ⟨B, 0, none⟩) L.length cap ∧ v = .int .i64 (i : Int) ∧ i ≤ N ∧ Hid (P2 w W w.heap.size B T H (H + 1) n i (fun k => (bts (tL ys) us).getD k 0) L r rv) ∧ Hid (BfI ys us i L r) ∧ Hid (∀ x ∈ L, marksL (bl x) = true)) (fun _ v _ => N - (intOf v).toNat)
      case atStart => exact ⟨0, ys, [], .slice none 0 0, by rw [HYl.out.1], rfl, by omega, HP2, HSt, HLm0⟩
      case round =>
        clear HP2 HSt HLm0
        obtain ⟨i, L, r, rv, rfl, rfl, hiN, HP2, HBf, HLm⟩ := hrel
        by_cases hlt : i < N
        · have hin : i < n + 1 := by have := HNn.out; omega
          have HSp := Lib.hid (HBf.out.step (by have := HU.out; omega) (by have := HLe.out; have := HYl.out.1; have := HU.out; have := HM.out; omega))
          have d0 := HP2.out.tc i hin
          change wr.cell? _ = some (.int .i64 (((bts (tL ys) us).getD i 0 : Nat) : Int)) at d0
          generalize (bts (tL ys) us).getD i 0 = t at d0 HSp
          obtain ⟨p, hp⟩ : ∃ p, p = fP L t := ⟨_, rfl⟩
          have HI : Hid (idxB (fun x => decide (tml (bl x) = t)) L = (p : Int)) := Lib.hid (by rw [hp]; exact idxB_fP HSp.out.1 HSp.out.2.1 HSp.out.2.2.1)
          have hpl : p < L.length := by rw [hp]; exact HSp.out.1
          have HBf2 : Hid (BfI ys us (i + 1) (L.eraseIdx p) (r ++ [L.getD p ⟨#[]⟩])) := Lib.hid (by rw [hp]; exact HSp.out.2.2.2)
          have hLm : L.length ≤ m := by have := HBf.out.len; have := HYl.out.1; omega
          have HP3 : Hid (P2 w (wr.alloc (.cells #[.int .i64 (t : Int)] 3)) w.heap.size B T H (H + 1) n i (fun k => (bts (tL ys) us).getD k 0) L r rv) := Lib.hid (HP2.out.below (below_alloc _ _))
          have HFI : Hid (Calls Try.prog 139 #[.slice (some ⟨B, 0, none⟩) L.length cap, .func (.func 140) #[] #[.pointer (some ⟨wr.heap.size, 0, none⟩)]] (wr.alloc (.cells #[.int .i64 (t : Int)] 3)) fun e w' => e = .returned (.int .i64 (p : Int)) ∧ Below (wr.alloc (.cells #[.int .i64 (t : Int)] 3)).heap.size (wr.alloc (.cells #[.int .i64 (t : Int)] 3)) w') := Lib.hid (by
            rw [← HI.out]
            exact indexFuncB_any _ _ _ L _ B 0 cap _ ⟨HP3.out.row.src, by omega, fun x hx => by
                have h := HLm.out x hx
                simp only [marksL, Bool.and_eq_true, decide_eq_true_eq, bl_len] at h; omega⟩ (by omega)
              (fun V x hx hb => ofTime_any x wr.heap.size t V (HLm.out x hx) ((hb.cell (p := ⟨wr.heap.size, 0, none⟩) (by simp)).trans (cell_new _ _ _))) enter_ofTime)
          have HLm2 : Hid (∀ x ∈ L.eraseIdx p, marksL (bl x) = true) := Lib.hid fun x hx => HLm.out x (List.mem_of_mem_eraseIdx hx)
          have hcapL : L.length ≤ cap := Nat.le_trans hLm HCap.out.1
          have HFD : Hid (∀ W, RowO W B L → Calls Try.prog 141 #[.slice (some ⟨B, 0, none⟩) L.length cap, .int .i64 (p : Int), .int .i64 ((p : Int) + 1)] W fun e w' => e = .returned (.slice (some ⟨B, 0, none⟩) (L.eraseIdx p).length cap) ∧ W.grownBy w' (some B) ∧ RowO w' B (L.eraseIdx p)) := Lib.hid fun W hr => by
            have h := Try.slices_Delete_string B 0 cap p (p + 1) (L.map bl) W (holds_rowO hr) (by rw [List.length_map]; exact hcapL) (by have := HCap.out.2; unfold maxLen at this; omega) (by omega) (by rw [List.length_map]; omega)
            rw [List.length_map, show p + 1 - p = 1 by omega, ← erase_len L p hpl] at h
            refine h.mono ?_
            rintro e w' ⟨rfl, q, rfl⟩
            have h2 := rowO_erased (q := q) hr hpl
            rw [show p + 1 - p = 1 by omega] at h2
            exact ⟨rfl, h2⟩
          have HD : Hid (∀ W, RowO W B L → W.cell? ⟨B, p, none⟩ = some (.string (L.getD p ⟨#[]⟩))) := Lib.hid fun W hr => hr.cell p hpl
          have i0 : (0 : Int) ≤ (i : Int) := by omega
          have i1 : (i : Int) < (N : Int) := by omega
          have p0 : (0 : Int) ≤ (p : Int) := by omega
          have p1 : (p : Int) < (L.length : Int) := by omega
          generalize L.getD p ⟨#[]⟩ = x at HBf2 HD
          clear HSp hp HP2 HI
          go_wp2_with fail
          refine HFI.out.mono ?_
          rintro e w6 ⟨rfl, hb6⟩
          have HP6 := Lib.hid (HP3.out.below hb6)
          clear hb6 HP3 HFI d0
          obtain ⟨av, capr, rfl⟩ := row_form HP6.out.own
          have c9 := HP6.out.bst.cell
          have f9 := HP6.out.bst.frozen
          have dB := HD.out w6 HP6.out.row
          have hsz6 := HP6.out.hz
          have HP7 := Lib.hid ((HP6.out.below (below_alloc w6 (.cells #[.string x] 9))).below (Below.refl _ _).drew)
          have q1 : i + 1 ≤ maxLen := by unfold maxLen; omega
          have q2 : (i + 1) * 16 ≤ 140737488355328 := by omega
          have hown := HP6.out.own
          have HP6a := HP6.out.below (below_alloc w6 (.cells #[.string x] 9))
          have c9d := HP6a.bst.cell
          have dBd := HD.out _ HP6a.row
          clear HP6a
          go_wp2
          go_region_law
            (refine step_append_lies _ (by rfl) _ _ _ (by rfl) (H + 1) 9 j0 _ 1 16 Try.underlying28 hj hz0 hz1 hz2 rfl (by decide) (.slice av i capr) i (r.map Value.string) (by rfl) ((hown.alloc _).drew)
              ⟨w6.heap.size, 0, none⟩ 1 1 [.string x] (by rfl) (by rfl) (World.news_of_block (cs := #[.string x]) (t := 9) (fr := (0, 0)) (heap_alloc_new w6 _)) (by simp [Value.oneCell'])
              (by decide) q1 q2 (Nat.le_trans hsz6 (below_alloc w6 _).size) (w6.heap.size + 1) (by simp) ?_; intro gg capg w7 hown7 hgrow hat hglt; have hbH := HP7.out.boxH hgrow; have hbc := hbH.cell; have hbf := hbH.frozen)
          all_goals (
            have HP8 : Hid (P2 w (w7.setCell ⟨H, 0, none⟩ (.slice (some ⟨gg, 0, none⟩) (i + 1) capg)) w.heap.size B T H (H + 1) n (i + 1) (fun k => (bts (tL ys) us).getD k 0) L (r ++ [x]) (.slice (some ⟨gg, 0, none⟩) (i + 1) capg)) := Lib.hid (HP7.out.grown hgrow (by rw [List.map_append]; exact hown7))
            have HDl := Lib.hid (HFD.out _ HP8.out.row)
            clear hown7 hgrow hat hglt hbH hown
            go_wp2_with fail
            refine HDl.out.mono ?_
            rintro e w9 ⟨rfl, hg9, hr9⟩
            have HP9 := Lib.hid (HP8.out.left hg9 hr9)
            clear hg9 hr9
            go_wp2
            go_roundw
            case rel => exact ⟨i + 1, L.eraseIdx p, r ++ [x], _, rfl, by go_num, by omega, HP9, HBf2, HLm2⟩
            case measure => simp [intOf]; omega)
        · obtain rfl : N = i := by omega
          have HR : Hid (r = fstL ys us) := Lib.hid (by
            have e : N = us.length := by have := HU.out; have := HNn.out; omega
            rw [e] at HBf
            exact HBf.out.done)
          have hN1' : 0 < N := by omega
          have hrl : N = (fstL ys us).length := by rw [fstL_len]; have := HU.out; have := HNn.out; omega
          have hown := HP2.out.own
          rw [HR.out] at hown
          obtain ⟨gg, capr, rfl, hrow, hgb, _, _⟩ := rowO_made hown hrl hN1'
          have HRow := Lib.hid hrow
          have HGb := Lib.hid hgb
          have c9 := HP2.out.bst.cell
          have c4 := HP2.out.box.cell
          have f4 := HP2.out.box.frozen
          have HRl := Lib.hid hrl
          clear hown hrow hgb hrl
          go_wp2
          refine bodyPost_ret (res_tab rfl _ rfl (HP2.out.box.set _)) rfl ?_
          have gs : wr.grownBy (wr.setCell ⟨w.heap.size, 0, none⟩ (.slice (some ⟨gg, 0, none⟩) N capr)) (some w.heap.size) := grown_set 0 _
          have hR := HRow.out.grown gs (by have := HGb.out; have := HP2.out.th; have := HP2.out.xb; have := HP2.out.bt; omega)
          exact ⟨ys, gg, capr, rfl, HS2.out, HYl.out.2, HYl.out.1.trans HM.out, hR.src, by have := HGb.out; have := HP2.out.th; have := HP2.out.xb; have := HP2.out.bt; omega, fun j hj => hR.opn j (by rw [← HRl.out]; exact hj), Below.grown' HP2.out.bel HP2.out.bel.size gs (Nat.le_refl _)⟩
end Go.Proofs.Ytdphjnbelggcfaa
