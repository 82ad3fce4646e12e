/-
  l11Vain of the model: letters that all have the same answer at a place. Used by the claims on chapter 11.
-/
import Derived.Test.YthkafalpjokfeaaDpL
import Derived.Test.YthkafalpjokfeaaPtS
namespace Go.Proofs.Ythkafalpjokfeaa
open Go.RowKit
set_option linter.unusedVariables false

theorem vain_at {xs : List ByteArray} {m : List Nat} {p : Nat} (h : ∀ j (hj : j < m.length), ansB (atL xs m[j]) p = ansB (atL xs (m.headD 0)) p) : vainB xs m p = true := vain_iff.2 fun i hi => by
  obtain ⟨j, hj, rfl⟩ := List.getElem_of_mem hi
  exact h j hj
theorem vain_not {xs : List ByteArray} {m : List Nat} {p j : Nat} (hj : j < m.length) (h : ansB (atL xs m[j]) p ≠ ansB (atL xs (m.headD 0)) p) : vainB xs m p = false := by
  rw [Bool.eq_false_iff]
  exact fun e => h (vain_iff.1 e _ (List.getElem_mem hj))
set_option maxHeartbeats 8000000 in
set_option maxRecDepth 8000 in
theorem sVain_any (a : Option Addr) (b o c : Nat) (xs : List ByteArray) (a1 : Option Addr) (g1 c1 : Nat) (m : List Nat) (p : Nat) (w : World) (hm : Lt xs m) (h : ListIn w a b o xs) (hs : SrcV w a1 g1 (ints m)) (hp : p ≤ 5) :
    Calls Try.prog 94 #[.agg #[.slice a xs.length c], .slice a1 m.length c1, .int .i64 p] w fun e w' => e = .returned (.bool (vainB xs m p)) ∧ Below w.heap.size w w' := by
  have HA := Lib.hid fun i W (hb : Below w.heap.size w W) hi hx => sAns_any a b o c xs i p W (h.below hb) hi hx hp
  have HV := Lib.hid fun W (hb : Below w.heap.size w W) => hs.below hb
  have HL := Lib.hid hm
  have hml := hm.len
  have h0 : 0 < m.length := List.length_pos_iff.2 hm.ne
  have HB0 := Lib.hid (below_alloc w (.cells #[.slice a xs.length c] 29))
  have hc0 := cell_new w (.slice a xs.length c) 29
  have HHd : Hid (m.headD 0 = m[0]) := Lib.hid (by
    match m, h0 with
    | x :: r, _ => rfl)
  obtain rfl := hs.1 (by rw [ints_len]; exact h0)
  clear h hs hm
  go_enter Try.func94, Try.ntmps94
  go_wp2
  go_loopw [7] (fun v wr => ∃ k : Nat, v = .int .i64 k ∧ 1 ≤ k ∧ k ≤ m.length ∧ wr.cell? ⟨w.heap.size, 0, none⟩ = some (.slice a xs.length c) ∧ Hid (Below w.heap.size w wr) ∧ Hid (∀ j (hj : j < m.length), j < k → ansB (atL xs m[j]) p = ansB (atL xs (m.headD 0)) p)) (fun v _ => m.length - (intOf v).toNat)
  case atStart => exact ⟨1, rfl, Nat.le_refl _, h0, hc0, HB0, Lib.hid fun j hj hj1 => by
    have : j = 0 := by omega
    subst this
    rw [HHd.out]⟩
  case round =>
    clear hc0
    obtain ⟨k, rfl, hk1, hk, hc, HB, HAll⟩ := hrel
    by_cases hlt : k < m.length
    · have HXk := Lib.hid fun W hb => (HV.out W hb).2 k _ (ints_at hlt)
      have HX0 := Lib.hid fun W hb => (HV.out W hb).2 0 _ (ints_at h0)
      have HFq := Lib.hid fun (i : Nat) (hi : i ∈ m) W hb => HA.out i W hb (HL.out.lt _ hi) (HL.out.five _ hi)
      have HNo := Lib.hid fun h => vain_not (xs := xs) (p := p) hlt h
      have HYe : Hid (ansB (atL xs m[k]) p = ansB (atL xs (m.headD 0)) p → ∀ j (hj : j < m.length), j < k + 1 → ansB (atL xs m[j]) p = ansB (atL xs (m.headD 0)) p) := Lib.hid fun h j hj hjk => by
        by_cases e : j = k
        · subst e; exact h
        · exact HAll.out j hj (by omega)
      rw [HHd.out] at HNo
      have HYe2 : Hid (ansB (atL xs m[k]) p = ansB (atL xs m[0]) p → ∀ j (hj : j < m.length), j < k + 1 → ansB (atL xs m[j]) p = ansB (atL xs (m.headD 0)) p) := Lib.hid (by rw [← HHd.out]; exact HYe.out)
      clear HYe
      have y1 := HXk.out wr HB.out
      have y0 := HX0.out wr HB.out
      have hmk := List.getElem_mem hlt
      have hm0 := List.getElem_mem h0
      generalize m[k] = ik at y1 HXk HNo HYe2 hmk
      generalize m[0] = i0 at y0 HX0 HNo HYe2 hm0
      obtain ⟨fq, hfq⟩ : ∃ fq : Nat → Nat, fq = fun i => ansB (atL xs i) p := ⟨_, rfl⟩
      have HFe : Hid (∀ i, ansB (atL xs i) p = fq i) := Lib.hid fun i => by rw [hfq]
      have HFk : Hid (∀ (i : Nat), i ∈ m → ∀ W, Below w.heap.size w W → Calls Try.prog 82 #[.agg #[.slice a xs.length c], .int .i64 (i : Int), .int .i64 (p : Int)] W fun e w' => e = .returned (.int .i64 ((fq i : Nat) : Int)) ∧ Below W.heap.size W w') := Lib.hid fun i hi W hb => by
        rw [← HFe.out i]; exact HFq.out i hi W hb
      rw [HFe.out, HFe.out] at HNo HYe2
      clear hfq HFq
      have HBd : Hid (Below w.heap.size w wr.drew) := Lib.hid HB.out.drew
      have z0 : (0 : Int) ≤ (k : Int) := by omega
      have z1 : (k : Int) < (m.length : Int) := by omega
      have z2 : (0 : Int) < (m.length : Int) := by omega
      by_cases hq : fq ik = fq i0
      · have HN2 := Lib.hid (HYe2.out hq)
        have t1 : ((fq ik : Int) == (fq i0 : Int)) = true := by rw [hq]; simp
        have t2 : ((fq ik : Int) != (fq i0 : Int)) = false := by rw [bne, t1]; rfl
        clear hq HNo HYe2
        go_wp2
        go_region_held3 (fun w' => w'.cell? ⟨w.heap.size, 0, none⟩ = some (.slice a xs.length c) ∧ w'.cell? ⟨g1, k, none⟩ = some (.int .i64 (ik : Int)) ∧ w'.cell? ⟨g1, 0, none⟩ = some (.int .i64 (i0 : Int)))
          (first
            | with_reducible exact ⟨v6, HXk.out _ HB6.out, HX0.out _ HB6.out⟩
            | with_reducible exact ⟨v5, HXk.out _ HB5.out, HX0.out _ HB5.out⟩
            | exact ⟨hc, y1, y0⟩
            | fail)
          ((first
            | (go_at_call 82; refine (HFk.out _ (by assumption) _ (by first | with_reducible exact HB5.out | with_reducible exact HBd.out)).mono ?_; first | (rintro e w6 ⟨rfl, hb6⟩; have HB6 : Hid (Below w.heap.size w w6) := Lib.hid (by with_reducible exact HB5.out.trans (hb6.mono HB5.out.size)); have v6 := cell_belowB hb6 v5) | (rintro e w5 ⟨rfl, hb5⟩; have HB5 : Hid (Below w.heap.size w w5) := Lib.hid (by with_reducible exact HBd.out.trans (hb5.mono HBd.out.size)); have v5 := cell_belowB (W := wr.drew) hb5 hc))
            | fail))
        all_goals (
          go_wp2
          go_roundw
          case rel => exact ⟨k + 1, by go_num, by omega, by omega, by first | exact v6 | exact v5, by first | exact HB6 | exact HB5, HN2⟩
          case measure => simp [intOf]; omega)
      · have HF := Lib.hid (HNo.out hq)
        have t1 : ((fq ik : Int) == (fq i0 : Int)) = false := beq_false_of_ne (by omega)
        have t2 : ((fq ik : Int) != (fq i0 : Int)) = true := by rw [bne, t1]; rfl
        clear hq HNo HYe2
        go_wp2
        go_region_held3 (fun w' => w'.cell? ⟨w.heap.size, 0, none⟩ = some (.slice a xs.length c) ∧ w'.cell? ⟨g1, k, none⟩ = some (.int .i64 (ik : Int)) ∧ w'.cell? ⟨g1, 0, none⟩ = some (.int .i64 (i0 : Int)))
          (first
            | with_reducible exact ⟨v6, HXk.out _ HB6.out, HX0.out _ HB6.out⟩
            | with_reducible exact ⟨v5, HXk.out _ HB5.out, HX0.out _ HB5.out⟩
            | exact ⟨hc, y1, y0⟩
            | fail)
          ((first
            | (go_at_call 82; refine (HFk.out _ (by assumption) _ (by first | with_reducible exact HB5.out | with_reducible exact HBd.out)).mono ?_; first | (rintro e w6 ⟨rfl, hb6⟩; have HB6 : Hid (Below w.heap.size w w6) := Lib.hid (by with_reducible exact HB5.out.trans (hb6.mono HB5.out.size)); have v6 := cell_belowB hb6 v5) | (rintro e w5 ⟨rfl, hb5⟩; have HB5 : Hid (Below w.heap.size w w5) := Lib.hid (by with_reducible exact HBd.out.trans (hb5.mono HBd.out.size)); have v5 := cell_belowB (W := wr.drew) hb5 hc))
            | fail))
        all_goals (
          go_wp2
          go_ret
          exact ⟨by rw [HF.out]; rfl, by first | exact HB6.out | exact HB5.out⟩)
    · obtain rfl : k = m.length := by omega
      have HT : Hid (vainB xs m p = true) := Lib.hid (vain_at fun j hj => HAll.out j hj hj)
      go_wp2
      go_ret
      exact ⟨by rw [HT.out]; rfl, HB.out⟩
end Go.Proofs.Ythkafalpjokfeaa
