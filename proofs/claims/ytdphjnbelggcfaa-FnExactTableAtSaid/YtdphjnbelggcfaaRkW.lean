/-
  RankOfTable of the program. Used by the claims on chapter 9.
-/
import Derived.Test.YtdphjnbelggcfaaRkL
import Derived.Test.YtdphjnbelggcfaaRowN
import Derived.Test.YtdphjnbelggcfaaWiW
import Derived.Test.YtdphjnbelggcfaaCtB
namespace Go.Proofs.Ytdphjnbelggcfaa
open Go.RowKit Go.Maps Go.WideMaps
set_option linter.unusedVariables false

theorem upto_N (k : Nat) : upto k = uptoN k := rfl
def ndsL (xs : List ByteArray) : List Nat := xs.map fun x => nd (bl x)
theorem nds_take {xs : List ByteArray} {k : Nat} {x : ByteArray} (h : xs[k]? = some x) : ndsL (xs.take (k + 1)) = ndsL (xs.take k) ++ [nd (bl x)] := by
  unfold ndsL
  rw [List.take_add_one, h]; simp
theorem nds_at {xs : List ByteArray} {k : Nat} {x : ByteArray} (h : xs[k]? = some x) : (ndsL xs)[k]? = some (nd (bl x)) := by
  unfold ndsL; rw [List.getElem?_map, h]; rfl
def rkB (xs : List ByteArray) (m : Int) : Bool := (tableB xs && limB m) && withinB xs m.toNat
/-- What a Table within m marks is. -/
theorem rk_facts {xs : List ByteArray} {m L : Nat} (ht : tableB xs = true) (hO : OfM m L) (hw : withinB xs m = true) : (ndsL xs).Nodup ∧ (∀ v ∈ ndsL xs, 2 ≤ v ∧ v < L + 2) := by
  obtain ⟨_, h2, h3⟩ := (tableB_iff xs).1 ht
  refine ⟨?_, fun v hv => ?_⟩
  · unfold ndsL
    have h4 : xs.Pairwise (fun a b => a ≠ b) := h3
    refine List.pairwise_map.2 (h4.imp_of_mem fun {a b} ha hb hne e => hne ?_)
    have ma := noneT_all (noneT_marks (h2 a ha))
    have mb := noneT_all (noneT_marks (h2 b hb))
    exact bl_inj (nd_inj ma mb e)
  · obtain ⟨x, hx, rfl⟩ := List.mem_map.1 hv
    have h5 := size5 ht x hx
    have hwx : x.size ≤ m := by unfold withinB at hw; rw [List.all_eq_true] at hw; simpa using hw x hx
    have h6 := (nd_pos (bl x)).2
    rw [bl_len] at h6
    have h7 : 2 ^ (x.size + 1) ≤ 2 ^ (m + 1) := Nat.pow_le_pow_right (by omega) (by omega)
    have := hO.le
    exact ⟨nd_two (by rw [bl_len]; omega), by omega⟩
def rkR (xs : List ByteArray) (m : Int) : Nat := if rkB xs m = true then rkN (2 ^ (m.toNat + 1) - 2) (ndsL xs) else 0

/-- All that one letter more asks for. -/
theorem rk_round {xs : List ByteArray} {m L : Nat} (ht : tableB xs = true) (hO : OfM m L) (hw : withinB xs m = true) {k : Nat} {x : ByteArray} (h : xs[k]? = some x) :
    let us := ndsL (xs.take k)
    let v := nd (bl x)
    (leftL L us)[plc us v]? = some v ∧ (∀ j, j < plc us v → (leftL L us)[j]? ≠ some v) ∧ (leftL L us).eraseIdx (plc us v) = leftL L (ndsL (xs.take (k + 1))) ∧ plc us v < (leftL L us).length ∧ (leftL L us).length = L - k ∧ k < L ∧ rkN L (ndsL (xs.take (k + 1))) = rkN L us * (leftL L us).length + plc us v ∧ rkN L (ndsL (xs.take (k + 1))) ≤ 839299365868340224 ∧ 1 ≤ (leftL L us).length := by
  intro us v
  obtain ⟨hn, hm⟩ := rk_facts ht hO hw
  have hk : k < xs.length := (List.getElem?_eq_some_iff.1 h).1
  have hlen : us.length = k := by show (ndsL (xs.take k)).length = k; unfold ndsL; rw [List.length_map, List.length_take]; omega
  have htk : ∀ j, ndsL (xs.take j) = (ndsL xs).take j := fun j => by unfold ndsL; rw [List.map_take]
  have ht1 : ndsL (xs.take (k + 1)) = us ++ [v] := nds_take h
  have hnk : (us ++ [v]).Nodup := by rw [← ht1, htk]; exact hn.sublist (List.take_sublist _ _)
  have hmk : ∀ u ∈ us ++ [v], 2 ≤ u ∧ u < L + 2 := by rw [← ht1, htk]; exact fun u hu => hm u (List.mem_of_mem_take hu)
  have hu : v ∉ us := fun h => (List.nodup_append.1 hnk).2.2 _ h _ (List.mem_singleton.2 rfl) rfl
  have hv := hmk v (by simp)
  obtain ⟨p1, p2, p3, p4, p5⟩ := left_place hv.1 hv.2 hu
  have hc := left_count (L := L) (vs := us) (List.nodup_append.1 hnk).1 (fun u hu => hmk u (List.mem_append_left _ hu))
  rw [hlen] at hc
  have hr := rk_snoc L us v
  rw [hlen, show L - k = (leftL L us).length by omega] at hr
  have hlt := rk_lt hnk hmk
  have h10 := ((tableB_iff xs).1 ht).1.2
  have hle := manyN_62 (k := (us ++ [v]).length) (l := L) (by rw [List.length_append, hlen]; simp; omega) hO.le.2.2.2.1
  rw [ht1]
  exact ⟨p1, p2, p3, p4, by omega, by omega, hr, by omega, by omega⟩

set_option maxHeartbeats 4000000 in
set_option maxRecDepth 8000 in
theorem rankOfTable_any (a : Option Addr) (b o c : Nat) (xs : List ByteArray) (m : Int) (w : World) (h : ListIn w a b o xs) :
    Calls Try.prog 51 #[.agg #[.slice a xs.length c], .int .i64 m] w fun e w' => e = .returned (.tuple #[.int .i64 ((rkR xs m : Nat) : Int), .bool (rkB xs m)]) ∧ Below w.heap.size w w' := by
  have hl := h.len
  have F := Lib.hid fun W hb => isTable_any a b o c xs W (h.below (w' := W) hb)
  have HLi := Lib.hid h
  have HNo : Hid (rkB xs m = false → rkR xs m = 0) := Lib.hid fun e => by unfold rkR; rw [if_neg (by rw [e]; decide)]
  cases ht : tableB xs with
  | false =>
    have HB0 : Hid (rkB xs m = false) := Lib.hid (by unfold rkB; rw [ht]; rfl)
    have HR := Lib.hid (HNo.out HB0.out)
    rw [HB0.out]
    rw [ht] at F
    clear ht h
    go_enter Try.func51, Try.ntmps51
    go_wp2_with fail
    refine (F.out _ (below_alloc _ _)).mono ?_
    rintro e w1 ⟨rfl, hb⟩
    have HB1 := Lib.hid ((below_alloc w (.cells #[.slice a xs.length c] 35)).trans (hb.mono (by simp)))
    clear hb
    go_wp2
    go_ret2
    exact ⟨by rw [HR.out]; rfl, HB1.out⟩
  | true =>
    rw [ht] at F
    have FL := Lib.hid fun W => isLimit_any m W
    cases hlm : limB m with
    | false =>
      have HB0 : Hid (rkB xs m = false) := Lib.hid (by unfold rkB; rw [hlm, Bool.and_false]; rfl)
      have HR := Lib.hid (HNo.out HB0.out)
      rw [HB0.out]
      rw [hlm] at FL
      clear ht h hlm
      go_enter Try.func51, Try.ntmps51
      go_wp2_with fail
      refine (F.out _ (below_alloc _ _)).mono ?_
      rintro e w1 ⟨rfl, hb⟩
      have HB1 := Lib.hid ((below_alloc w (.cells #[.slice a xs.length c] 35)).trans (hb.mono (by simp)))
      clear hb
      go_wp2_with fail
      refine (FL.out _).mono ?_
      rintro e w2 ⟨rfl, rfl⟩
      go_wp2
      go_ret2
      exact ⟨by rw [HR.out]; rfl, HB1.out⟩
    | true =>
      rw [hlm] at FL
      obtain ⟨k0, L, rfl, hO⟩ := limB_at hlm
      have hOl := hO.le
      have FW := Lib.hid fun W hb => isWithin_any a b o c xs k0 W (h.below (w' := W) hb) ht ⟨hOl.1, hOl.2.1⟩
      cases hw : withinB xs k0 with
      | false =>
        have HB0 : Hid (rkB xs (k0 : Int) = false) := Lib.hid (by unfold rkB; rw [Int.toNat_natCast, hw, Bool.and_false])
        have HR := Lib.hid (HNo.out HB0.out)
        rw [HB0.out]
        rw [hw] at FW
        clear ht h hlm hw
        go_enter Try.func51, Try.ntmps51
        go_wp2_with fail
        refine (F.out _ (below_alloc _ _)).mono ?_
        rintro e w1 ⟨rfl, hb⟩
        have l1 := (hb.cell (p := ⟨w.heap.size, 0, none⟩) (by simp)).trans (cell_new w (.slice a xs.length c) 35)
        have HB1 := Lib.hid ((below_alloc w (.cells #[.slice a xs.length c] 35)).trans (hb.mono (by simp)))
        clear hb
        go_wp2_with fail
        refine (FL.out _).mono ?_
        rintro e w2 ⟨rfl, rfl⟩
        go_wp2_with fail
        refine (FW.out _ HB1.out).mono ?_
        rintro e w3 ⟨rfl, hb⟩
        have HB3 := Lib.hid (HB1.out.trans (hb.mono HB1.out.size))
        clear hb l1
        go_wp2
        go_ret2
        exact ⟨by rw [HR.out]; rfl, HB3.out⟩
      | true =>
        have HB0 : Hid (rkB xs (k0 : Int) = true) := Lib.hid (by unfold rkB; rw [Int.toNat_natCast, hw, ht, hlm]; rfl)
        have HR : Hid (rkR xs (k0 : Int) = rkN L (ndsL xs)) := Lib.hid (by unfold rkR; rw [if_pos HB0.out, Int.toNat_natCast, show 2 ^ (k0 + 1) - 2 = L by omega])
        rw [HB0.out]
        rw [hw] at FW
        have FN := Lib.hid fun W => nodesWithin_any k0 L hO W
        have HRd := Lib.hid fun k x (hx : xs[k]? = some x) => rk_round ht hO hw hx
        have hn10 := ((tableB_iff xs).1 ht).1.2
        have HMk := Lib.hid ((tableB_iff xs).1 ht).2.1
        have HG := Lib.hid fun (y : ByteArray) (W : World) (hy : marksL (bl y) = true) => nodeOf_any y W (noneT_marks hy)
        have HL62 := Lib.hid hOl
        clear ht h hlm hw hO hOl
        go_enter Try.func51, Try.ntmps51
        go_wp2_with fail
        refine (F.out _ (below_alloc _ _)).mono ?_
        rintro e w1 ⟨rfl, hb⟩
        have l1 := (hb.cell (p := ⟨w.heap.size, 0, none⟩) (by simp)).trans (cell_new w (.slice a xs.length c) 35)
        have HB1 := Lib.hid ((below_alloc w (.cells #[.slice a xs.length c] 35)).trans (hb.mono (by simp)))
        clear hb
        go_wp2_with fail
        refine (FL.out _).mono ?_
        rintro e w2 ⟨rfl, rfl⟩
        go_wp2_with fail
        refine (FW.out _ HB1.out).mono ?_
        rintro e w3 ⟨rfl, hb⟩
        have l3 := (hb.cell (World.block_lt_of_cell? _ _ l1)).trans l1
        have HB3 := Lib.hid (HB1.out.trans (hb.mono HB1.out.size))
        clear hb l1
        go_wp2_with fail
        refine (FN.out _).mono ?_
        rintro e w4 ⟨B, cap, rfl, hown, hb⟩
        have l4 := (hb.cell (World.block_lt_of_cell? _ _ l3)).trans l3
        have HB4 := Lib.hid (HB3.out.trans (hb.mono HB3.out.size))
        have HN4 := Lib.hid (rowN_of hown (by have := HL62.out; omega) (upto_len L).symm)
        have HBb : Hid (w.heap.size ≤ B) := Lib.hid (Nat.le_trans HB3.out.size HN4.out.2.1)
        have HCp := Lib.hid HN4.out.2.2
        have HR4 : Hid (RowN w4 B (leftL L (ndsL (xs.take 0)))) := Lib.hid (by show RowN w4 B (leftL L []); rw [left_nil]; exact HN4.out.1)
        have HL0 : Hid (L = (leftL L (ndsL (xs.take 0))).length) := Lib.hid (by show L = (leftL L []).length; rw [left_nil, uptoN_len])
        clear hb l3 hown HN4
        go_wp2
        go_loopw [6, 7, 30] (fun rv lv v wr => ∃ k r n0 : Nat, v = .int .i64 (k : Int) ∧ rv = .int .i64 (r : Int) ∧ lv = .slice (some ⟨B, 0, none⟩) n0 cap ∧ k ≤ xs.length ∧ Hid (n0 = (leftL L (ndsL (xs.take k))).length) ∧ Hid (r = rkN L (ndsL (xs.take k))) ∧ Hid (n0 ≤ L) ∧ Hid (RowN wr B (leftL L (ndsL (xs.take k)))) ∧ Hid (Below w.heap.size w wr)) (fun _ _ v _ => xs.length - (intOf v).toNat)
        case atStart => exact ⟨0, 0, L, rfl, rfl, rfl, Nat.zero_le _, HL0, Lib.hid rfl, Lib.hid (Nat.le_refl _), HR4, HB4⟩
        case round =>
          clear HR4 HB4 HL0 HB3 HB1 l4
          obtain ⟨k, r, n0, rfl, rfl, rfl, hk, HN, HRk, HNL, HRw, HB⟩ := hrel
          by_cases hlt : k < xs.length
          · obtain rfl := HLi.out.src.1 (by omega)
            have hx := List.getElem?_eq_getElem hlt
            have d1 := (HLi.out.below HB.out).src.2 k _ hx
            have hmy := HMk.out _ (List.getElem_mem hlt)
            obtain ⟨p1, p2, p3, p4, p5, p6, p7, p8, p9⟩ := HRd.out k _ hx
            have GY := Lib.hid fun W => HG.out _ W hmy
            generalize xs[k] = x at *
            generalize nd (bl x) = v at *
            obtain ⟨pl, hpl⟩ : ∃ pl, plc (ndsL (xs.take k)) v = pl := ⟨_, rfl⟩
            rw [hpl] at p1 p2 p3 p4 p7
            rw [← HN.out] at p4 p5 p7 p9
            rw [← HRk.out] at p7
            have HP1 := Lib.hid p1
            have HP2 := Lib.hid p2
            have HP3 := Lib.hid p3
            have HP7 := Lib.hid p7
            have q1 : r * n0 + pl ≤ 839299365868340224 := by omega
            have q2 : r * n0 ≤ 839299365868340224 := by omega
            obtain ⟨c0, hc0⟩ : ∃ c0, r * n0 = c0 := ⟨_, rfl⟩
            rw [hc0] at q1 q2
            have HC0 := Lib.hid hc0
            have e0 : (r : Int) * (n0 : Int) = (c0 : Int) := by rw [← hc0, Int.natCast_mul]
            have q3 : n0 ≤ 62 := by have := HNL.out; have := HL62.out; omega
            have HQ9 := Lib.hid p9
            have HQ4 := Lib.hid p4
            clear hpl hx hmy p1 p2 p3 p5 p6 p7 p8 hc0
            go_wp2_with fail
            refine (GY.out _).mono ?_
            rintro e' w5 ⟨rfl, hb5⟩
            have HR5 := Lib.hid (HRw.out.below hb5)
            have HB5 := Lib.hid (HB.out.trans (hb5.mono HB.out.size))
            have HIx := Lib.hid fun W (hr : RowN W B (leftL L (ndsL (xs.take k)))) => indexN_any B (leftL L (ndsL (xs.take k))) n0 cap v pl W hr HP1.out HP2.out HN.out (by omega)
            clear hb5
            go_wp2_with fail
            refine (HIx.out _ HR5.out).mono ?_
            rintro e' w6 ⟨rfl, rfl⟩
            have HDl := Lib.hid (deleteN_any B n0 cap pl (leftL L (ndsL (xs.take k))) _ HR5.out HN.out (by omega) (by have := HCp.out.1; have := HNL.out; omega) HCp.out.2)
            obtain ⟨e1, e2⟩ := wrap_many e0 q2
            clear e0
            go_wp2_with fail
            refine HDl.out.mono ?_
            rintro e' w7 ⟨rfl, hgr, hrw⟩
            clear e1 e2
            have HR7 : Hid (RowN w7 B (leftL L (ndsL (xs.take (k + 1))))) := Lib.hid (by rw [← HP3.out]; exact hrw)
            have HB7 : Hid (Below w.heap.size w w7) := Lib.hid (HB5.out.grown hgr HB5.out.size (fun q e => by injection e with e; rw [← e]; exact HBb.out))
            have HN7 : Hid (n0 - 1 = (leftL L (ndsL (xs.take (k + 1)))).length) := Lib.hid (by rw [← HP3.out, erase_lenN _ _ (by rw [← HN.out]; exact HQ4.out), ← HN.out])
            have HK7 : Hid (c0 + pl = rkN L (ndsL (xs.take (k + 1)))) := Lib.hid (by rw [HP7.out, HC0.out])
            clear hgr hrw
            go_wp2
            go_roundw
            case rel => exact ⟨k + 1, c0 + pl, n0 - 1, by go_num, by go_num, rfl, by omega, HN7, HK7, Lib.hid (by have := HNL.out; omega), HR7, HB7⟩
            case measure => simp [intOf]; omega
          · have HE : Hid (r = rkN L (ndsL xs)) := Lib.hid (by rw [HRk.out, List.take_of_length_le (by omega)])
            go_wp2
            go_ret2
            exact ⟨by rw [HR.out, ← HE.out]; rfl, HB.out⟩
end Go.Proofs.Ytdphjnbelggcfaa
