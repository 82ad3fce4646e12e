/-
  RankOfTable of the model: both answer alike. Used by the claims on chapter 9.
-/
import Derived.Test.YtdphjnbelggcfaaRkW
import Derived.Deep.RegionWith
import Derived.Deep.RegionLaw
import Derived.Deep.CutRange
namespace Go.Proofs.Ytdphjnbelggcfaa
open Go.RowKit Go.Maps Go.WideMaps
set_option linter.unusedVariables false

theorem infoIntK : (Try.prog.info? 3).map (fun i => (i.zero, i.size, i.bytes)) = some (some (.int .i64 0), 1, 8) := by kernel_rfl
theorem sHasN_any (a : Option Addr) (g c n : Nat) (us : List Nat) (v : Nat) (w : World) (hs : SrcV w a g (ints us)) (hn : n = us.length) (hl : n ≤ 1000) :
    Calls Try.prog 103 #[.slice a n c, .int .i64 (v : Int)] w fun e w' => e = .returned (.bool (us.contains v)) ∧ w' = w := by
  have HS := Lib.hid hs
  have HN := Lib.hid hn
  clear hs hn
  go_enter Try.func103, Try.ntmps103
  go_wp2
  go_loopw [5] (fun z wr => ∃ k : Nat, z = .int .i64 (k : Int) ∧ k ≤ n ∧ Hid (v ∉ us.take k) ∧ wr = w) (fun z _ => n - (intOf z).toNat)
  case atStart => exact ⟨0, rfl, Nat.zero_le _, Lib.hid (by simp), rfl⟩
  case round =>
    obtain ⟨k, rfl, hk, HF, hwr⟩ := hrel
    subst hwr
    by_cases hlt : k < n
    · have hkn : k < us.length := by rw [← HN.out]; omega
      have hx := List.getElem?_eq_getElem hkn
      have d1 := HS.out.2 k _ (ints_at hkn)
      obtain rfl := HS.out.1 (by rw [ints_len]; omega)
      have i0 : (0 : Int) ≤ (k : Int) := by omega
      have i1 : (k : Int) < (n : Int) := by omega
      by_cases e : us[k] = v
      · have e1 : ((us[k] : Int) == (v : Int)) = true := by rw [e]; simp
        have HR : Hid (us.contains v = true) := Lib.hid (by rw [List.contains_iff_mem, ← e]; exact List.getElem_mem hkn)
        generalize us[k] = x at *
        clear hx e
        go_wp2
        go_ret
        exact ⟨by rw [HR.out]; rfl, rfl⟩
      · have e1 : ((us[k] : Int) == (v : Int)) = false := beq_false_of_ne (fun h => e (by omega))
        have HF2 : Hid (v ∉ us.take (k + 1)) := Lib.hid (by
          rw [List.take_add_one, hx]
          simp only [Option.toList_some, List.mem_append, List.mem_singleton, not_or]
          exact ⟨HF.out, fun h => e h.symm⟩)
        generalize us[k] = x at *
        clear hx e
        go_wp2
        go_roundw
        case rel => exact ⟨k + 1, by go_num, by omega, HF2, by trivial⟩
        case measure => simp [intOf]; omega
    · have HR : Hid (us.contains v = false) := Lib.hid (by
        have := HF.out
        rw [List.take_of_length_le (by rw [← HN.out]; omega)] at this
        simpa using this)
      go_wp2
      go_ret
      exact ⟨by rw [HR.out]; rfl, rfl⟩

/-- A Table's beginning asks for what the Table does. -/
theorem rk_round2 {xs : List ByteArray} {m L : Nat} (ht : tableB xs = true) (hO : OfM m L) {k : Nat} {x : ByteArray} (h : xs[k]? = some x) (hw : withinB (xs.take (k + 1)) m = true) :
    let us := ndsL (xs.take k)
    let v := nd (bl x)
    2 ≤ v ∧ v ≤ 63 ∧ us.length = k ∧ k < L ∧ rkN L (ndsL (xs.take (k + 1))) = rkN L us * (L - k) + plc us v ∧ rkN L (ndsL (xs.take (k + 1))) < manyN (k + 1) L := by
  intro us v
  have hk : k < xs.length := (List.getElem?_eq_some_iff.1 h).1
  obtain ⟨⟨t1, t2⟩, t3, t4⟩ := (tableB_iff xs).1 ht
  have ht' : tableB (xs.take (k + 1)) = true := (tableB_iff _).2 ⟨⟨by rw [List.length_take]; omega, by rw [List.length_take]; omega⟩, fun y hy => t3 y (List.mem_of_mem_take hy), t4.sublist (List.take_sublist _ _)⟩
  have h' : (xs.take (k + 1))[k]? = some x := by rw [List.getElem?_take_of_lt (by omega)]; exact h
  have r := rk_round ht' hO hw h'
  simp only [List.take_take] at r
  rw [show min k (k + 1) = k by omega, show min (k + 1) (k + 1) = k + 1 by omega] at r
  obtain ⟨_, _, _, _, r5, r6, r7, _, _⟩ := r
  obtain ⟨hn, hm⟩ := rk_facts ht' hO hw
  have hlt := rk_lt hn hm
  have hl1 : (ndsL (xs.take (k + 1))).length = k + 1 := by unfold ndsL; rw [List.length_map, List.length_take]; omega
  rw [hl1] at hlt
  have hv := hm (nd (bl x)) (by rw [nds_take h]; simp)
  refine ⟨hv.1, nd_le (by rw [bl_len]; exact (size5 ht x (List.mem_of_getElem? h)).2), by show (ndsL (xs.take k)).length = k; unfold ndsL; rw [List.length_map, List.length_take]; omega, r6, ?_, hlt⟩
  rw [r7, r5]
theorem plc_step (us : List Nat) (k : Nat) : ((uptoN (k + 1)).filter (freeB us)).length = ((uptoN k).filter (freeB us)).length + if us.contains (k + 2) then 0 else 1 := by
  rw [uptoN_succ, List.filter_append, List.length_append]
  congr 1
  rw [List.filter_cons]
  unfold freeB
  cases us.contains (k + 2) <;> simp
theorem filt_le (us : List Nat) (k : Nat) : ((uptoN k).filter (freeB us)).length ≤ k := by
  have := List.length_filter_le (freeB us) (uptoN k)
  rw [uptoN_len] at this; exact this

set_option maxHeartbeats 4000000 in
set_option maxRecDepth 8000 in
theorem sRankOfTable_any (a : Option Addr) (b o c : Nat) (xs : List ByteArray) (m : Int) (w : World) (h : ListIn w a b o xs) :
    Calls Try.prog 50 #[.agg #[.slice a xs.length c], .int .i64 m] w fun e w' => e = .returned (.tuple #[.int .i64 ((rkR xs m : Nat) : Int), .bool (rkB xs m)]) ∧ Below w.heap.size w w' := by
  have hl := h.len
  have F := Lib.hid fun W hb => stable_any a b o c xs W (h.below (w' := W) hb)
  have HLi := Lib.hid h
  have HNo : Hid (rkB xs m = false → rkR xs m = 0) := Lib.hid fun e => by unfold rkR; rw [if_neg (by rw [e]; decide)]
  cases ht : tableB xs with
  | false =>
    have HB0 : Hid (rkB xs m = false) := Lib.hid (by unfold rkB; rw [ht]; rfl)
    have HR := Lib.hid (HNo.out HB0.out)
    rw [HB0.out]
    rw [ht] at F
    clear ht h
    go_enter Try.func50, Try.ntmps50
    go_wp2_with fail
    refine (F.out _ (below_alloc _ _)).mono ?_
    rintro e w1 ⟨rfl, hb⟩
    have HB1 := Lib.hid ((below_alloc w (.cells #[.slice a xs.length c] 35)).trans (hb.mono (by simp)))
    clear hb
    go_wp2
    go_ret2
    exact ⟨by rw [HR.out]; rfl, HB1.out⟩
  | true =>
    rw [ht] at F
    have FL : Hid (∀ W, Calls Try.prog 75 #[.int .i64 m, .int .i64 1, .int .i64 5] W fun e w' => e = .returned (.bool (limB m)) ∧ w' = W) := Lib.hid fun W => in_any m 1 5 W
    cases hlm : limB m with
    | false =>
      have HB0 : Hid (rkB xs m = false) := Lib.hid (by unfold rkB; rw [hlm, Bool.and_false]; rfl)
      have HR := Lib.hid (HNo.out HB0.out)
      rw [HB0.out]
      rw [hlm] at FL
      clear ht h hlm
      go_enter Try.func50, Try.ntmps50
      go_wp2_with fail
      refine (F.out _ (below_alloc _ _)).mono ?_
      rintro e w1 ⟨rfl, hb⟩
      have HB1 := Lib.hid ((below_alloc w (.cells #[.slice a xs.length c] 35)).trans (hb.mono (by simp)))
      clear hb
      go_wp2_with fail
      refine (FL.out _).mono ?_
      rintro e w2 ⟨rfl, rfl⟩
      go_wp2
      go_ret2
      exact ⟨by rw [HR.out]; rfl, HB1.out⟩
    | true =>
      rw [hlm] at FL
      obtain ⟨k0, L, rfl, hO⟩ := limB_at hlm
      have hOl := hO.le
      clear h
      go_enter Try.func50, Try.ntmps50
      go_wp2_with fail
      refine (F.out _ (below_alloc _ _)).mono ?_
      rintro e w1 ⟨rfl, hb⟩
      have l1 := (hb.cell (p := ⟨w.heap.size, 0, none⟩) (by simp)).trans (cell_new w (.slice a xs.length c) 35)
      have HB1 := Lib.hid ((below_alloc w (.cells #[.slice a xs.length c] 35)).trans (hb.mono (by simp)))
      clear hb
      go_wp2_with fail
      refine (FL.out _).mono ?_
      rintro e w2 ⟨rfl, rfl⟩
      have HO0 : Hid (((w2.alloc (Obj.cells #[] 3)).drew).ownsRow w2.heap.size 3 1 (.slice (some ⟨w2.heap.size, 0, none⟩) 0 0) 0 (ints (ndsL (xs.take 0)))) := Lib.hid (World.ownsRow_made (base := w2.heap.size) (e := 3) (size := 1) w2 #[] 0 (Nat.le_refl _) (by unfold maxLen; omega) rfl)
      have HC0 : Hid (((w2.alloc (Obj.cells #[] 3)).drew).cell? ⟨w.heap.size, 0, none⟩ = some (.slice a xs.length c)) := Lib.hid (keep_cell w2 (Obj.cells #[] 3) l1)
      have HBd : Hid (Below w.heap.size w ((w2.alloc (Obj.cells #[] 3)).drew)) := Lib.hid (HB1.out.alloc HB1.out.size _).drew
      have HSz : Hid (w.heap.size ≤ w2.heap.size) := Lib.hid HB1.out.size
      have HBx : Hid (w.heap.size < w2.heap.size) := Lib.hid (World.block_lt_of_cell? _ _ l1)
      obtain ⟨i0, hi, hz0, hz1, hz2⟩ := info_parts infoIntK
      have hn10 := ((tableB_iff xs).1 ht).1.2
      have HMk := Lib.hid ((tableB_iff xs).1 ht).2.1
      have HG := Lib.hid fun (y : ByteArray) (W : World) (hy : marksL (bl y) = true) => sNode_any y W (noneT_marks hy)
      have HRd := Lib.hid fun k x (hx : xs[k]? = some x) hw => rk_round2 ht hO hx hw
      have FLe := Lib.hid fun W => sLeft_any k0 L hO W
      have H62 := Lib.hid hOl
      have HFalse : Hid (withinB xs k0 = false → rkB xs (k0 : Int) = false) := Lib.hid fun e => by unfold rkB; rw [Int.toNat_natCast, e, Bool.and_false]
      have HTrue : Hid (withinB xs k0 = true → rkB xs (k0 : Int) = true ∧ rkR xs (k0 : Int) = rkN L (ndsL xs)) := Lib.hid fun e => by
        have hb : rkB xs (k0 : Int) = true := by unfold rkB; rw [Int.toNat_natCast, e, ht, hlm]; rfl
        exact ⟨hb, by unfold rkR; rw [if_pos hb, Int.toNat_natCast, show 2 ^ (k0 + 1) - 2 = L by omega]⟩
      have HZ0 : Hid (0 = rkN L (ndsL (xs.take 0)) * manyN (xs.length - 0) (L - 0)) := Lib.hid (by show 0 = rkN L [] * _; simp [rkN])
      have hk5 := hOl.2.1
      have lA := keep_cell w2 (Obj.cells #[] 3) l1
      clear ht hlm hO hOl HB1
      go_wp2
      go_region
      all_goals (
        obtain ⟨W0, hW0⟩ : ∃ W0 : World, W0 = (w2.alloc (Obj.cells #[] 3)).drew := ⟨_, rfl⟩
        rw [← hW0] at HO0 HC0 HBd ⊢
        have HZs : Hid (w2.heap.size ≤ W0.heap.size) := Lib.hid (by rw [hW0]; simp)
        clear hW0 l1 lA
        go_wp2
        go_loopw [6, 7, 9] (fun rv uv iv wr => ∃ k z : Nat, iv = .int .i64 (k : Int) ∧ rv = .int .i64 (z : Int) ∧ k ≤ xs.length ∧ wr.ownsRow w2.heap.size 3 1 uv k (ints (ndsL (xs.take k))) ∧ Hid (z = rkN L (ndsL (xs.take k)) * manyN (xs.length - k) (L - k)) ∧ Hid (z ≤ 839299365868340224) ∧ Hid (withinB (xs.take k) k0 = true) ∧ Hid (wr.cell? ⟨w.heap.size, 0, none⟩ = some (.slice a xs.length c)) ∧ Hid (Below w.heap.size w wr) ∧ Hid (w2.heap.size ≤ wr.heap.size)) (fun _ _ v _ => xs.length - (intOf v).toNat)
        case atStart => exact ⟨0, 0, rfl, rfl, Nat.zero_le _, HO0.out, HZ0, Lib.hid (by omega), Lib.hid rfl, HC0, HBd, HZs⟩
        case round =>
          clear HO0 HC0 HBd HZ0
          obtain ⟨k, z, rfl, rfl, hk, hown, HZ, HZl, HWi, HC, HB, HSw⟩ := hrel
          obtain ⟨av, capv, rfl⟩ := row_form hown
          have HOw := Lib.hid hown
          clear hown
          have l1 := HC.out
          by_cases hlt : k < xs.length
          · obtain rfl := HLi.out.src.1 (by omega)
            have hx := List.getElem?_eq_getElem hlt
            have d1 := (HLi.out.below HB.out).src.2 k _ hx
            have hmy := HMk.out _ (List.getElem_mem hlt)
            have HX := Lib.hid hx
            have HXm : Hid (xs[k] ∈ xs) := Lib.hid (List.getElem_mem hlt)
            generalize xs[k] = x at *
            have i1 : (0 : Int) ≤ (k : Int) := by omega
            have i2 : (k : Int) < (xs.length : Int) := by omega
            by_cases hsz : k0 < x.size
            · have hno : withinB xs k0 = false := by
                rw [Bool.eq_false_iff]; intro e
                unfold withinB at e
                rw [List.all_eq_true] at e
                have := e x HXm.out
                simp at this; omega
              have HBf := Lib.hid (HFalse.out hno)
              have HRf := Lib.hid (HNo.out HBf.out)
              have q1 : (k0 : Int) < (x.size : Int) := by omega
              clear hx hmy hno hsz
              go_wp2
              go_ret2
              exact ⟨by rw [HRf.out, HBf.out]; rfl, HB.out⟩
            · have HWi2 : Hid (withinB (xs.take (k + 1)) k0 = true) := Lib.hid (by
                unfold withinB at *
                rw [List.take_add_one, HX.out, List.all_append, HWi.out]; simp; omega)
              obtain ⟨v2, v63, hul, hkL, hrk, hrl⟩ := HRd.out k x hx HWi2.out
              have GY := Lib.hid fun W => HG.out x W hmy
              have HNd : Hid (ndsL (xs.take (k + 1)) = ndsL (xs.take k) ++ [nd (bl x)]) := Lib.hid (nds_take hx)
              have hst := rk_step (L := L) (n := xs.length) (k := k) (r := rkN L (ndsL (xs.take k))) (p := plc (ndsL (xs.take k)) (nd (bl x))) hlt
              rw [← hrk, ← HZ.out] at hst
              have hmul := manyN_mul (k + 1) (xs.length - (k + 1)) L
              rw [show k + 1 + (xs.length - (k + 1)) = xs.length by omega] at hmul
              have hbd := manyN_62 (k := xs.length) (l := L) hn10 (by have := H62.out; omega)
              have hle : rkN L (ndsL (xs.take (k + 1))) * manyN (xs.length - (k + 1)) (L - (k + 1)) ≤ 839299365868340224 := Nat.le_trans (Nat.mul_le_mul (Nat.le_of_lt hrl) (Nat.le_refl _)) (by rw [hmul]; exact hbd)
              rw [hst] at hle
              have HSt := Lib.hid hst
              have hxz : x.size ≤ k0 := by omega
              have q1 : ¬ (k0 : Int) < (x.size : Int) := by omega
              have q2 : decide ((k0 : Int) < (x.size : Int)) = false := decide_eq_false q1
              generalize nd (bl x) = v at *
              generalize ndsL (xs.take k) = us at *
              obtain ⟨A, hA⟩ : ∃ A, xs.length - 1 - k = A := ⟨_, rfl⟩
              obtain ⟨D, hD⟩ : ∃ D, L - 1 - k = D := ⟨_, rfl⟩
              rw [hA, hD] at HSt hle
              have eA : (xs.length : Int) - 1 - (k : Int) = (A : Int) := by omega
              have eD : (L : Int) - 1 - (k : Int) = (D : Int) := by have := H62.out; omega
              have HMy := Lib.hid fun W => sMany_any A D (by omega) (by have := H62.out; omega) W
              have HSrc : Hid (∃ gg, SrcV wr av gg (ints us)) := Lib.hid (by
                obtain ⟨a', g', c', he, hs, _, _⟩ := seq_of_row HOw.out
                injection he with e1 e2 e3
                subst e1
                exact ⟨g', hs⟩)
              have HHas : Hid (∀ u : Nat, Calls Try.prog 103 #[.slice av k capv, .int .i64 (u : Int)] wr fun e w' => e = .returned (.bool (us.contains u)) ∧ w' = wr) := Lib.hid fun u => by
                obtain ⟨gg, hs⟩ := HSrc.out
                exact sHasN_any av gg capv k us u wr hs hul.symm (by omega)
              have HPs := Lib.hid (plc_step us)
              have HFl := Lib.hid (filt_le us)
              have hL62 : L ≤ 62 := by have := H62.out; omega
              clear hx hmy hrk hrl hst hmul hbd hA hD hsz
              go_wp2_with fail
              refine (GY.out _).mono ?_
              rintro e w5 ⟨rfl, hww⟩
              obtain rfl := hww.symm
              obtain ⟨W3, rfl⟩ : ∃ W3, W3 = wr := ⟨_, rfl⟩
              go_wp2
              go_loopw [11, 12] (fun bv kv w3 => ∃ j t : Nat, kv = .int .i64 (t : Int) ∧ bv = .int .i64 ((((uptoN j).filter (freeB us)).length : Nat) : Int) ∧ Hid (t = j + 2) ∧ Hid (j ≤ v - 2) ∧ w3 = W3) (fun _ kv _ => v - (intOf kv).toNat)
              case atStart => exact ⟨0, 2, rfl, rfl, Lib.hid rfl, Lib.hid (by omega), rfl⟩
              case round =>
                obtain ⟨j, t, rfl, rfl, HT, HJ, hwr⟩ := hrel
                subst hwr
                by_cases hlt3 : t < v
                · have HH := Lib.hid (HHas.out t)
                  have HP := Lib.hid (HPs.out j)
                  have hfl := HFl.out j
                  have hj61 : j ≤ 61 := by have := HJ.out; omega
                  have HT2 : Hid (t + 1 = j + 1 + 2) := Lib.hid (by have := HT.out; omega)
                  have HJ2 : Hid (j + 1 ≤ v - 2) := Lib.hid (by have := HT.out; omega)
                  have htj : t = j + 2 := HT.out
                  rw [← htj] at HP
                  clear htj
                  cases hq : us.contains t with
                  | true =>
                    rw [hq] at HH HP
                    have HE : Hid (((uptoN (j + 1)).filter (freeB us)).length = ((uptoN j).filter (freeB us)).length) := Lib.hid (by rw [HP.out]; simp)
                    generalize ((uptoN j).filter (freeB us)).length = f0 at *
                    clear hq HP
                    go_wp2_with fail
                    refine HH.out.mono ?_
                    rintro e w6 ⟨rfl, rfl⟩
                    go_wp2
                    go_roundw
                    case rel => exact ⟨j + 1, t + 1, by go_num, by rw [HE.out], HT2, HJ2, by trivial⟩
                    case measure => simp [intOf]; omega
                  | false =>
                    rw [hq] at HH HP
                    have HE : Hid (((uptoN (j + 1)).filter (freeB us)).length = ((uptoN j).filter (freeB us)).length + 1) := Lib.hid (by rw [HP.out]; simp)
                    generalize ((uptoN j).filter (freeB us)).length = f0 at *
                    clear hq HP
                    go_wp2_with fail
                    refine HH.out.mono ?_
                    rintro e w6 ⟨rfl, rfl⟩
                    go_wp2
                    go_roundw
                    case rel => exact ⟨j + 1, t + 1, by go_num, by rw [HE.out]; go_num, HT2, HJ2, by trivial⟩
                    case measure => simp [intOf]; omega
                · have HPl : Hid (((uptoN j).filter (freeB us)).length = plc us v) := Lib.hid (by
                    have h1 := HT.out
                    have h2 := HJ.out
                    unfold plc
                    rw [show v - 2 = j by omega])
                  rw [HPl.out]
                  generalize plc us v = pc at *
                  generalize manyN A D = M at *
                  obtain ⟨c1, hc1⟩ : ∃ c1, pc * M = c1 := ⟨_, rfl⟩
                  rw [hc1] at HSt hle
                  have e0 : (pc : Int) * (M : Int) = (c1 : Int) := by rw [← hc1, Int.natCast_mul]
                  have b1 : c1 ≤ 839299365868340224 := by omega
                  have b2 : z + c1 ≤ 839299365868340224 := hle
                  have a1 : k + 1 ≤ maxLen := by unfold maxLen; omega
                  have a2 : (k + 1) * 8 ≤ 140737488355328 := by omega
                  have HLt : Hid (∀ q, (Value.slice av k capv).ownBlock = some q → w2.heap.size ≤ q) := Lib.hid fun q e => (HOw.out.lt q e).1
                  clear HHas HPs HFl hc1 HSrc
                  go_wp2_with fail
                  refine (FLe.out _).mono ?_
                  rintro e w6 ⟨rfl, hww⟩
                  obtain rfl := hww.symm
                  go_wp2_with fail
                  with_reducible refine (HMy.out _).mono ?_
                  rintro e w7 ⟨rfl, hww⟩
                  obtain rfl := hww.symm
                  go_wp2_with (at_builtin; refine wpList_append_lies _ rfl _ _ 32 rfl w2.heap.size 3 i0 (.int .i64 0) 1 8 Try.underlying32 hi hz0 hz1 hz2 rfl (by decide) (.slice av k capv) k (ints us) rfl (HOw.out.alloc _) ⟨wr.heap.size, 0, none⟩ 1 1 [.int .i64 (v : Int)] rfl rfl (cell_one_new _ _ _) (by simp [Value.oneCell']) (by decide) a1 a2 (Nat.le_trans HSw.out (below_alloc wr _).size) (wr.heap.size + 1) (by simp) ?_; intro gg cg w8 hownN hgrow hat hgl)
                  clear e0
                  have HW8 : Hid (w8.ownsRow w2.heap.size 3 1 (.slice (some ⟨gg, 0, none⟩) (k + 1) cg) (k + 1) (ints (ndsL (xs.take (k + 1))))) := Lib.hid (by rw [HNd.out, ints_snoc]; exact hownN)
                  have HB8 : Hid (Below w.heap.size w w8) := Lib.hid ((HB.out.alloc HB.out.size _).grown hgrow (Nat.le_trans HB.out.size (below_alloc wr _).size) (fun q e => Nat.le_trans HSz.out (HLt.out q e)))
                  have HC8 : Hid (w8.cell? ⟨w.heap.size, 0, none⟩ = some (.slice (some ⟨b, o, none⟩) xs.length c)) := Lib.hid (by
                    have hbg : Below w2.heap.size (wr.alloc (.cells #[.int .i64 (v : Int)] 3)) w8 := (Below.refl w2.heap.size _).grown hgrow (Nat.le_trans HSw.out (below_alloc wr _).size) (fun q e => HLt.out q e)
                    exact (hbg.cell (p := ⟨w.heap.size, 0, none⟩) HBx.out).trans (keep_cell wr _ HC.out))
                  have HZ8 : Hid (z + c1 = rkN L (ndsL (xs.take (k + 1))) * manyN (xs.length - (k + 1)) (L - (k + 1))) := Lib.hid HSt.out.symm
                  have HS8 : Hid (w2.heap.size ≤ w8.heap.size) := Lib.hid (Nat.le_trans HSw.out (Nat.le_trans (below_alloc wr _).size hgrow.size))
                  clear hownN hgrow hat hgl
                  go_wp2
                  go_roundw
                  case rel => exact ⟨k + 1, z + c1, by go_num, by go_num, by omega, HW8.out, HZ8, Lib.hid b2, HWi2, HC8, HB8, HS8⟩
                  case measure => simp [intOf]; omega
          · have hwi : withinB xs k0 = true := by
              have := HWi.out
              rwa [List.take_of_length_le (by omega)] at this
            obtain ⟨hb, hr⟩ := HTrue.out hwi
            have HBt := Lib.hid hb
            have HRt : Hid (rkR xs (k0 : Int) = z) := Lib.hid (by
              rw [hr, HZ.out, List.take_of_length_le (by omega), show xs.length - k = 0 by omega]; simp [manyN])
            clear hwi hb hr
            go_wp2
            go_ret2
            exact ⟨by rw [HRt.out, HBt.out]; rfl, HB.out⟩)
theorem rankOfTable_both (xs : List ByteArray) (m : Int) (hl : xs.length ≤ 1048576) (ht : ∀ x ∈ xs, x.size ≤ 1048576) (hm : (Lit.int .i64 m).wf = true) : ∃ (R0 : Int) (R1 : Bool),
    Hid (∀ W a b o c, ListIn W a b o xs → Calls Try.prog 50 #[.agg #[.slice a xs.length c], .int .i64 m] W fun e W' => e = .returned (.tuple #[.int .i64 R0, .bool R1]) ∧ Below W.heap.size W W') ∧
    Hid (∀ W a b o c, ListIn W a b o xs → Calls Try.prog 51 #[.agg #[.slice a xs.length c], .int .i64 m] W fun e W' => e = .returned (.tuple #[.int .i64 R0, .bool R1]) ∧ Below W.heap.size W W') :=
  ⟨_, _, fun W a b o c h => sRankOfTable_any a b o c xs m W h, fun W a b o c h => rankOfTable_any a b o c xs m W h⟩
end Go.Proofs.Ytdphjnbelggcfaa
