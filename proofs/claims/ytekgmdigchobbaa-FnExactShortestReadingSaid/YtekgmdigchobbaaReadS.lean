/-
  ReadingAt of the model. Used by the claims on chapter 3.
-/
import Derived.Test.YtekgmdigchobbaaReadL
import Derived.Test.YtekgmdigchobbaaSDecW
import Derived.Test.YtekgmdigchobbaaEncB
namespace Go.Proofs.Ytekgmdigchobbaa
open Go.RowKit
set_option linter.unusedVariables false

def readR (xs : List ByteArray) (s : ByteArray) (k : Int) : ByteArray × Bool := if goodB xs s = true ∧ 0 ≤ k ∧ k < (wayAt xs s 0 : Int) then (ba (rdL xs s s.size 0 k.toNat), true) else (⟨#[]⟩, false)

set_option maxHeartbeats 8000000 in
set_option maxRecDepth 8000 in
theorem sRead_any (a : Option Addr) (b o c : Nat) (xs : List ByteArray) (s : ByteArray) (k0 : Int) (hk0 : (Lit.int .i64 k0).wf = true) (w : World) (h : ListIn w a b o xs) (hs : s.size ≤ maxLen) :
    Calls Try.prog 48 #[.agg #[.slice a xs.length c], .string s, .int .i64 k0] w fun e w' => e = .returned (.tuple #[.string (readR xs s k0).1, .bool (readR xs s k0).2]) ∧ Below w.heap.size w w' := by
  have hl := h.len
  have F := Lib.hid fun W hb => sGood_any a b o c xs s W (h.below (w' := W) hb) hs
  have HS := Lib.hid h
  clear h
  by_cases hg : goodB xs s = true
  · obtain ⟨ht, hbr⟩ := goodB_iff.1 hg
    have h40 := bare_le hbr
    have F2 := Lib.hid fun W hb => val_eq (v' := .bool true) (F.out W hb) (by rw [hg])
    have G := Lib.hid fun W hb => sWays_any a b o c xs s W (HS.out.below (w' := W) hb) ht h40
    have HT := Lib.hid ht
    have hn : xs.length ≤ 10 := ((tableB_iff xs).1 ht).1.2
    have hw0 := wayAt_le ht s h40 0
    have HIn := Lib.hid fun w => in_any k0 0 ((wayAt xs s 0 : Int) - 1) w
    clear ht hbr F
    by_cases hk : 0 ≤ k0 ∧ k0 < (wayAt xs s 0 : Int)
    · have HI2 := Lib.hid fun w => val_eq (v' := .bool true) (HIn.out w) (by congr 1; rw [Bool.and_eq_true]; simp only [decide_eq_true_eq]; omega)
      have HR : Hid (readR xs s k0 = (ba (rdL xs s s.size 0 k0.toNat), true)) := Lib.hid (if_pos ⟨hg, hk⟩)
      obtain ⟨kn, rfl⟩ : ∃ kn : Nat, k0 = (kn : Int) := ⟨k0.toNat, by omega⟩
      have hkn : kn < wayAt xs s 0 := by omega
      rw [Int.toNat_natCast] at HR
      clear hg HIn hk
      go_enter Try.func48, Try.ntmps48
      go_wp2_with fail
      refine (F2.out _ (below_alloc _ _)).mono ?_
      rintro e w1 ⟨rfl, hb⟩
      have hc1 : w1.cell? ⟨w.heap.size, 0, none⟩ = some (.slice a xs.length c) := (hb.cell (p := ⟨w.heap.size, 0, none⟩) (by simp)).trans (cell_new _ _ _)
      have HB := Lib.hid ((below_alloc w (.cells #[.slice a xs.length c] 26)).trans (hb.mono (by simp)))
      clear hb
      go_wp2_with fail
      refine (G.out _ HB.out).mono ?_
      rintro e w2 ⟨g, rfl, hg, hrow, hb⟩
      have hc2 := (hb.cell (World.block_lt_of_cell? _ _ hc1)).trans hc1
      have HB2 := Lib.hid (HB.out.trans (hb.mono HB.out.size))
      have HV := Lib.hid hrow
      have d0 := hrow.cell (i := 0) (by omega)
      clear hb hc1 hrow
      have z0 : (0 : Int) < (s.size : Int) + 1 := by omega
      have q1 : IntKind.i64.wrap ((wayAt xs s 0 : Int) - 1) = (wayAt xs s 0 : Int) - 1 := by rw [IntKind.wrap_i64]; omega
      go_wp2_with fail
      refine (HI2.out _).mono ?_
      rintro e w3 ⟨rfl, hww⟩
      obtain rfl := hww.symm
      clear d0 q1
      go_wp2_with fail
      go_loopw [2, 9, 10] (fun kv mv pv wr => ∃ (k p n : Nat) (l : Bs), kv = .int .i64 k ∧ mv = .string ⟨l.toArray⟩ ∧ pv = .int .i64 p ∧ p ≤ s.size ∧ k < wayAt xs s p ∧ l.length ≤ p ∧ Hid (s.size ≤ n + p) ∧ Hid (l ++ rdL xs s n p k = rdL xs s s.size 0 kn) ∧ wr.cell? ⟨w.heap.size, 0, none⟩ = some (.slice a xs.length c) ∧ Hid (wr.rowIs g 3 (s.size + 1) (fun j => .int .i64 (wayAt xs s j))) ∧ Hid (Below w.heap.size w wr)) (fun _ _ pv _ => s.size - (intOf pv).toNat)
      case atStart => exact ⟨kn, 0, s.size, [], rfl, rfl, rfl, Nat.zero_le _, hkn, by simp, Lib.hid (by omega), Lib.hid rfl, hc2, HV, HB2⟩
      case round =>
        obtain ⟨k, p, n, l, rfl, rfl, rfl, hp, hkp, hlp, HN, HE, hc3, HV3, HB3⟩ := hrel
        by_cases hlt : p < s.size
        · obtain ⟨n', rfl⟩ : ∃ n', n = n' + 1 := ⟨n - 1, by have := HN.out; omega⟩
          have i1 : (0 : Int) ≤ (p : Int) := by omega
          have i2 : (p : Int) < (s.size : Int) := by omega
          have hkp2 := wayAt_le HT.out s h40 p
          have HAll := Lib.hid (wayPart_all HT.out s p hlt)
          go_wp2
          go_loopw [2, 11] (fun kv jv wr2 => ∃ j : Nat, jv = .int .i64 j ∧ j < xs.length ∧ wayPart xs s p j ≤ k ∧ kv = .int .i64 ((k - wayPart xs s p j : Nat) : Int) ∧ wr2 = wr) (fun _ jv _ => xs.length - (intOf jv).toNat)
          case atStart => exact ⟨0, rfl, by
            rcases Nat.eq_zero_or_pos xs.length with h | h
            · have := HAll.out; rw [h, wayPart_zero] at this; omega
            · exact h, by rw [wayPart_zero]; omega, by rw [wayPart_zero]; rfl, rfl⟩
          case round =>
            obtain ⟨j, rfl, hj, hjk, rfl, hwr⟩ := hrel
            subst hwr
            obtain rfl := HS.out.src.1 (by omega)
            have hcell := (HS.out.below HB3.out).src.2 j _ (List.getElem?_eq_getElem hj)
            have HX := Lib.hid (List.getElem?_eq_getElem hj)
            have hx1 : 1 ≤ xs[j].size ∧ xs[j].size ≤ 5 := by
              have h1 := ((tableB_iff xs).1 HT.out).2.1 _ (List.getElem_mem hj)
              simp only [marksL, Bool.and_eq_true, decide_eq_true_eq, bl_len] at h1
              exact h1.1
            generalize xs[j] = x at hcell HX hx1
            have HSt := Lib.hid fun w => stands_any s x p w (by omega) h40 hx1.2
            have HSu := Lib.hid (wayPart_succ xs s p j x HX.out)
            have j0 : (0 : Int) ≤ (j : Int) := by omega
            have j1 : (j : Int) < (xs.length : Int) := by omega
            have HLt : Hid (k < wayPart xs s p (j + 1) ∨ j + 1 < xs.length) := Lib.hid (by
              by_cases h : j + 1 < xs.length
              · exact .inr h
              · left
                have h2 : j + 1 = xs.length := by omega
                rw [h2, HAll.out]; exact hkp)
            by_cases hst : stands s x p = true
            · have HSt2 := Lib.hid fun w => val_eqS (v' := .bool true) (HSt.out w) (by rw [hst])
              have hsz := stands_le (s := s) (m := x) (j := p) (by omega) hst
              have d2 := HV3.out.cell (i := p + x.size) (by omega)
              have z1 : (0 : Int) ≤ (p : Int) + (x.size : Int) := by omega
              have z2 : (p : Int) + (x.size : Int) < (s.size : Int) + 1 := by omega
              have hwx := wayAt_le HT.out s h40 (p + x.size)
              have HP : Hid (wayPart xs s p (j + 1) = wayPart xs s p j + wayAt xs s (p + x.size)) := Lib.hid (by rw [HSu.out, if_pos hst])
              by_cases htake : k - wayPart xs s p j < wayAt xs s (p + x.size)
              · have HStep : Hid (rdL xs s (n' + 1) p k = UInt8.ofNat (97 + j) :: rdL xs s n' (p + x.size) (k - wayPart xs s p j)) := Lib.hid (rdL_step hlt HX.out hjk (take_facts HX.out hjk hst htake))
                have HLe := Lib.hid fun w => letterT_any j (by omega) w
                have HCt := Lib.hid (catB l (ba [UInt8.ofNat (97 + j)]))
                have hls : (ba [UInt8.ofNat (97 + j)]).size = 1 := rfl
                have HTk := Lib.hid htake
                have e1 : ((k - wayPart xs s p j : Nat) : Int) < (wayAt xs s (p + x.size) : Int) := by omega
                generalize hy : ba [UInt8.ofNat (97 + j)] = y at HLe HCt hls
                have HY := Lib.hid hy
                have p1 : ¬ 9223372036854775807 < l.length + y.size := by omega
                clear hy hst htake
                go_wp2_with fail
                refine (HSt2.out _).mono ?_
                rintro e w5 ⟨rfl, hww⟩
                obtain rfl := hww.symm
                have HXx := Lib.hid hx1
                go_wp2_with fail
                refine (HLe.out _).mono ?_
                rintro e w6 ⟨rfl, hb⟩
                have hc4 := (hb.cell (World.block_lt_of_cell? _ _ hc3)).trans hc3
                have HV4 := Lib.hid (rowIs_below HV3.out hb)
                have HB4 := Lib.hid (HB3.out.trans (hb.mono HB3.out.size))
                have hcell4 := (hb.cell (World.block_lt_of_cell? _ _ hcell)).trans hcell
                have HE2 : Hid ((l ++ [UInt8.ofNat (97 + j)]) ++ rdL xs s n' (p + x.size) (k - wayPart xs s p j) = rdL xs s s.size 0 kn) := Lib.hid (by
                  rw [← HE.out, HStep.out, List.append_assoc]; rfl)
                have HL2 : Hid ((⟨l.toArray⟩ : ByteArray) ++ y = ⟨(l ++ [UInt8.ofNat (97 + j)]).toArray⟩) := Lib.hid (by rw [HCt.out, ← HY.out, bl_ba])
                clear hb hc3 hcell d2
                go_wp2
                go_roundw
                case rel => exact ⟨k - wayPart xs s p j, p + x.size, n', l ++ [UInt8.ofNat (97 + j)], rfl, by rw [HL2.out], rfl, hsz, HTk.out, by simp; omega, Lib.hid (by have := HN.out; omega), HE2, hc4, HV4, HB4⟩
                case measure => simp [intOf]; omega
              · have e1 : ¬ ((k - wayPart xs s p j : Nat) : Int) < (wayAt xs s (p + x.size) : Int) := by omega
                have e2 : ((k - wayPart xs s p j : Nat) : Int) - (wayAt xs s (p + x.size) : Int) = ((k - wayPart xs s p (j + 1) : Nat) : Int) := by rw [HP.out]; omega
                have hjk2 : wayPart xs s p (j + 1) ≤ k := by rw [HP.out]; omega
                have hj2 : j + 1 < xs.length := by rcases HLt.out with h | h <;> omega
                have HE2 := Lib.hid e2
                clear hst htake e2
                go_wp2_with fail
                refine (HSt2.out _).mono ?_
                rintro e w5 ⟨rfl, hww⟩
                obtain rfl := hww.symm
                go_wp2
                go_roundw
                case rel => exact ⟨j + 1, by go_num, hj2, hjk2, by rw [HE2.out], trivial⟩
                case measure => simp [intOf]; omega
            · have HSt2 := Lib.hid fun w => val_eqS (v' := .bool false) (HSt.out w) (by simp [hst])
              have HP : Hid (wayPart xs s p (j + 1) = wayPart xs s p j) := Lib.hid (by rw [HSu.out, if_neg hst]; rfl)
              have e1 : ¬ ((k - wayPart xs s p j : Nat) : Int) < 0 := by omega
              have hjk2 : wayPart xs s p (j + 1) ≤ k := by rw [HP.out]; exact hjk
              have hj2 : j + 1 < xs.length := by rcases HLt.out with h | h <;> omega
              clear hst
              go_wp2_with fail
              refine (HSt2.out _).mono ?_
              rintro e w5 ⟨rfl, hww⟩
              obtain rfl := hww.symm
              go_wp2
              go_roundw
              case rel => exact ⟨j + 1, by go_num, hj2, hjk2, by rw [HP.out], trivial⟩
              case measure => simp [intOf]; omega
        · obtain rfl : p = s.size := by omega
          have HF : Hid (l = rdL xs s s.size 0 kn) := Lib.hid (by have := HE.out; rwa [rdL_end, List.append_nil] at this)
          go_wp2
          go_ret2
          exact ⟨by rw [HR.out, ← HF.out]; rfl, HB3.out⟩
    · have HI2 := Lib.hid fun w => val_eq (v' := .bool false) (HIn.out w) (by congr 1; rw [Bool.and_eq_false_iff]; simp only [decide_eq_false_iff_not]; omega)
      have HR : Hid (readR xs s k0 = (⟨#[]⟩, false)) := Lib.hid (if_neg (fun h => hk h.2))
      clear hg HIn hk
      go_enter Try.func48, Try.ntmps48
      go_wp2_with fail
      refine (F2.out _ (below_alloc _ _)).mono ?_
      rintro e w1 ⟨rfl, hb⟩
      have hc1 : w1.cell? ⟨w.heap.size, 0, none⟩ = some (.slice a xs.length c) := (hb.cell (p := ⟨w.heap.size, 0, none⟩) (by simp)).trans (cell_new _ _ _)
      have HB := Lib.hid ((below_alloc w (.cells #[.slice a xs.length c] 26)).trans (hb.mono (by simp)))
      clear hb
      go_wp2_with fail
      refine (G.out _ HB.out).mono ?_
      rintro e w2 ⟨g, rfl, hg, hrow, hb⟩
      have HB2 := Lib.hid (HB.out.trans (hb.mono HB.out.size))
      have d0 := hrow.cell (i := 0) (by omega)
      clear hb hc1 hrow
      have z0 : (0 : Int) < (s.size : Int) + 1 := by omega
      have q1 : IntKind.i64.wrap ((wayAt xs s 0 : Int) - 1) = (wayAt xs s 0 : Int) - 1 := by rw [IntKind.wrap_i64]; omega
      go_wp2_with fail
      refine (HI2.out _).mono ?_
      rintro e w3 ⟨rfl, hww⟩
      obtain rfl := hww.symm
      go_wp2
      go_ret2
      exact ⟨by rw [HR.out]; rfl, HB2.out⟩
  · have F2 := Lib.hid fun W hb => val_eq (v' := .bool false) (F.out W hb) (by simp [hg])
    have HR : Hid (readR xs s k0 = (⟨#[]⟩, false)) := Lib.hid (if_neg (fun h => hg h.1))
    clear hg F
    go_enter Try.func48, Try.ntmps48
    go_wp2_with fail
    refine (F2.out _ (below_alloc _ _)).mono ?_
    rintro e w1 ⟨rfl, hb⟩
    have HB := Lib.hid ((below_alloc w (.cells #[.slice a xs.length c] 26)).trans (hb.mono (by simp)))
    clear hb
    go_wp2
    go_ret2
    exact ⟨by rw [HR.out]; rfl, HB.out⟩
end Go.Proofs.Ytekgmdigchobbaa
