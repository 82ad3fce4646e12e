/-
  l6Least of the model: the least distance of two letters. Used by the claims on chapter 6.
-/
import Derived.Test.YtgdiffdpjpkleaaCpW
import Derived.Deep.RegionWith
namespace Go.Proofs.Ytgdiffdpjpkleaa
open Go.RowKit Go.Maps
set_option linter.unusedVariables false

def leastW (xs : List ByteArray) (i k : Nat) : Nat := if lowQ i k = [] then 0 else minOn (farP xs) (lowQ i k)
theorem lowQ_lt {xs : List ByteArray} {i k : Nat} (hi : i < xs.length ∨ (i ≤ xs.length ∧ k = 0)) (hk : k ≤ i) {p : Nat × Nat} (hp : p ∈ lowQ i k) : p.1 < xs.length ∧ p.2 < p.1 := by
  rcases mem_lowQ.1 hp with h | h <;> omega
theorem farP_low {xs : List ByteArray} (ht : tableB xs = true) {p : Nat × Nat} (h1 : p.1 < xs.length) (h2 : p.2 < p.1) : 1 ≤ farP xs p ∧ farP xs p ≤ 5 := by
  refine ⟨?_, farB_le (marks5 ht) (marks5 ht _ (atB_mem h1)) (by omega)⟩
  refine Nat.pos_of_ne_zero fun e => ?_
  have e2 : atB xs p.1 = atB xs p.2 := bl_inj (dist_zero e)
  have e3 := atB_eq (List.getElem?_eq_getElem h1)
  have e4 := atB_eq (List.getElem?_eq_getElem (show p.2 < xs.length by omega))
  have e5 : xs[p.1] = xs[p.2] := by rw [← e3, ← e4, e2]
  have := (List.getElem?_inj (j := p.2) h1 (table_nodup ht)).1 (by rw [List.getElem?_eq_getElem h1, List.getElem?_eq_getElem (show p.2 < xs.length by omega), e5])
  omega
theorem leastW_zero {xs : List ByteArray} (ht : tableB xs = true) {i k : Nat} (hi : i < xs.length ∨ (i ≤ xs.length ∧ k = 0)) (hk : k ≤ i) : leastW xs i k = 0 ↔ lowQ i k = [] := by
  unfold leastW
  by_cases h : lowQ i k = []
  · simp [h]
  · rw [if_neg h]
    obtain ⟨p, hp, e⟩ := minOn_at h (fun p hp => (farP_low ht (lowQ_lt hi hk hp).1 (lowQ_lt hi hk hp).2).2)
    have := (farP_low ht (lowQ_lt hi hk hp).1 (lowQ_lt hi hk hp).2).1
    exact ⟨fun e2 => by omega, fun e2 => absurd e2 h⟩
theorem leastW_le {xs : List ByteArray} (ht : tableB xs = true) {i k : Nat} (hi : i < xs.length ∨ (i ≤ xs.length ∧ k = 0)) (hk : k ≤ i) : leastW xs i k ≤ 5 := by
  unfold leastW
  by_cases h : lowQ i k = []
  · rw [if_pos h]; omega
  · rw [if_neg h]; exact minOn_le5 h (fun p hp => (farP_low ht (lowQ_lt hi hk hp).1 (lowQ_lt hi hk hp).2).2)
theorem leastW_step {xs : List ByteArray} (ht : tableB xs = true) {i k : Nat} (hi : i < xs.length) (hk : k < i) :
    leastW xs i (k + 1) = if leastW xs i k = 0 ∨ farP xs (i, k) < leastW xs i k then farP xs (i, k) else leastW xs i k := by
  have hz := leastW_zero ht (i := i) (k := k) (.inl hi) (by omega)
  have h1 : leastW xs i (k + 1) = min (minOn (farP xs) (lowQ i k)) (farP xs (i, k)) := by
    unfold leastW
    rw [lowQ_succ, if_neg (by simp), minOn_snoc]
  have hf := (farP_low ht (p := (i, k)) hi hk).2
  by_cases h : lowQ i k = []
  · rw [if_pos (.inl (hz.2 h)), h1, h, minOn_nil]; omega
  · have h2 : leastW xs i k = minOn (farP xs) (lowQ i k) := by unfold leastW; rw [if_neg h]
    have h3 : leastW xs i k ≠ 0 := fun e => h (hz.1 e)
    rw [h1, ← h2]
    by_cases h4 : farP xs (i, k) < leastW xs i k
    · rw [if_pos (.inr h4)]; omega
    · rw [if_neg (by omega)]; omega
theorem leastW_row (xs : List ByteArray) (i : Nat) : leastW xs i i = leastW xs (i + 1) 0 := by unfold leastW; rw [lowQ_row]
def lpN (xs : List ByteArray) : Nat := if 2 ≤ xs.length then leastP xs else 0
theorem leastW_all {xs : List ByteArray} (ht : tableB xs = true) : leastW xs xs.length 0 = lpN xs := by
  unfold lpN
  by_cases h2 : 2 ≤ xs.length
  · rw [if_pos h2]
    have hne : lowQ xs.length 0 ≠ [] := List.ne_nil_of_mem (a := (1, 0)) (mem_lowQ.2 (.inl ⟨by show 1 < _; omega, by show 0 < 1; omega⟩))
    have h5 : ∀ p ∈ lowQ xs.length 0, farP xs p ≤ 5 := fun p hp => (farP_low ht (lowQ_lt (.inr ⟨Nat.le_refl _, rfl⟩) (Nat.zero_le _) hp).1 (lowQ_lt (.inr ⟨Nat.le_refl _, rfl⟩) (Nat.zero_le _) hp).2).2
    unfold leastW
    rw [if_neg hne]
    have h5a : ∀ p ∈ allQ xs.length, farP xs p ≤ 5 := fun p hp => farP_le (marks5 ht) hp
    refine Nat.le_antisymm (minOn_mono (allQ_ne h2) h5a fun q hq => ?_) (minOn_mono hne h5 fun q hq => ?_)
    · have := mem_allQ.1 hq
      exact ⟨(q.2, q.1), mem_lowQ.2 (.inl ⟨this.2, this.1⟩), farP_comm xs q.2 q.1⟩
    · have := lowQ_lt (xs := xs) (.inr ⟨Nat.le_refl _, rfl⟩) (Nat.zero_le _) hq
      exact ⟨(q.2, q.1), mem_allQ.2 ⟨this.2, this.1⟩, farP_comm xs q.2 q.1⟩
  · rw [if_neg h2]
    unfold leastW
    rw [if_pos (List.eq_nil_iff_forall_not_mem.2 fun p hp => by rcases mem_lowQ.1 hp with h | h <;> omega)]

set_option maxHeartbeats 8000000 in
set_option maxRecDepth 8000 in
theorem sLeast_any (a : Option Addr) (b o c : Nat) (xs : List ByteArray) (w : World) (h : ListIn w a b o xs) (ht : tableB xs = true) :
    Calls Try.prog 91 #[.agg #[.slice a xs.length c]] w fun e w' => e = .returned (.int .i64 (lpN xs : Int)) ∧ Below w.heap.size w w' := by
  have HS := Lib.hid h
  have H5 := Lib.hid (marks5 ht)
  have HT := Lib.hid ht
  have hl := (table_le ht).2
  have HAll := Lib.hid (leastW_all ht)
  clear h ht
  have hB0 := Lib.hid (below_alloc w (.cells #[.slice a xs.length c] 32))
  have hc0 := cell_new w (.slice a xs.length c) 32
  have hz0 : Hid (w.heap.size < (w.alloc (.cells #[.slice a xs.length c] 32)).heap.size) := Lib.hid (by simp)
  go_enter Try.func91, Try.ntmps91
  go_wp2
  go_loopw [3, 4] (fun u v wr => ∃ i : Nat, v = .int .i64 i ∧ i ≤ xs.length ∧ u = .int .i64 (leastW xs i 0 : Int) ∧ wr.cell? ⟨w.heap.size, 0, none⟩ = some (.slice a xs.length c) ∧ Hid (Below w.heap.size w wr) ∧ Hid (w.heap.size < wr.heap.size)) (fun _ v _ => xs.length - (intOf v).toNat)
  case atStart => exact ⟨0, rfl, Nat.zero_le _, rfl, hc0, hB0, hz0⟩
  case round =>
    obtain ⟨i, rfl, hi, rfl, hc1, HB, HZ⟩ := hrel
    by_cases hlt : i < xs.length
    · obtain rfl := HS.out.src.1 (by omega)
      have HXi := Lib.hid (atB_eq (List.getElem?_eq_getElem hlt))
      have hx5 := H5.out _ (List.getElem_mem hlt)
      have HCi := Lib.hid fun W (hb : Below w.heap.size w W) => (HS.out.below hb).src.2 i _ (List.getElem?_eq_getElem hlt)
      generalize xs[i] = xi at HCi HXi hx5
      go_wp2
      go_loopw [3, 5] (fun u v wr => ∃ k : Nat, v = .int .i64 k ∧ k ≤ i ∧ u = .int .i64 (leastW xs i k : Int) ∧ wr.cell? ⟨w.heap.size, 0, none⟩ = some (.slice (some ⟨b, o, none⟩) xs.length c) ∧ Hid (Below w.heap.size w wr) ∧ Hid (w.heap.size < wr.heap.size)) (fun _ v _ => i - (intOf v).toNat)
      case atStart => exact ⟨0, rfl, Nat.zero_le _, rfl, hc1, HB, HZ⟩
      case round =>
        clear hc1 HB HZ
        obtain ⟨k, rfl, hk, rfl, hc1, HB, HZ⟩ := hrel
        by_cases hkl : k < i
        · have hcI := HCi.out _ HB.out
          have hcK := (HS.out.below HB.out).src.2 k _ (List.getElem?_eq_getElem (show k < xs.length by omega))
          have HXk := Lib.hid (atB_eq (List.getElem?_eq_getElem (show k < xs.length by omega)))
          have hy5 := H5.out _ (List.getElem_mem (show k < xs.length by omega))
          generalize xs[k] = xk at hcK HXk hy5
          have HFd : Hid (farP xs (i, k) = dist (bl xi) (bl xk)) := Lib.hid (farP_at HXi.out HXk.out)
          have HDs := Lib.hid fun W => sDistance_any xi xk W hx5 hy5
          have HSt := Lib.hid (leastW_step HT.out hlt hkl)
          have hd5 := (farP_low HT.out (p := (i, k)) hlt hkl).2
          have hw5 := leastW_le HT.out (i := i) (k := k) (.inl hlt) hk
          rw [← HFd.out] at HDs
          have i1 : (0 : Int) ≤ (i : Int) := by omega
          have i2 : (i : Int) < (xs.length : Int) := by omega
          have k1 : (0 : Int) ≤ (k : Int) := by omega
          have k2 : (k : Int) < (xs.length : Int) := by omega
          generalize farP xs (i, k) = d0 at HDs HSt hd5
          generalize leastW xs i k = m0 at HSt hw5
          clear HFd
          by_cases hm0 : m0 = 0
          · have HE : Hid (leastW xs i (k + 1) = d0) := Lib.hid (by rw [HSt.out, if_pos (.inl hm0)])
            have t1 : ((m0 : Int) == 0) = true := by simp; omega
            clear hm0
            go_wp2
            go_region_with (go_at_call 76; refine (HDs.out _).mono ?_; rintro e w2 ⟨rfl, hb2⟩)
            all_goals (
              have hc2 : w2.cell? ⟨w.heap.size, 0, none⟩ = some (.slice (some ⟨b, o, none⟩) xs.length c) := (hb2.cell (p := ⟨w.heap.size, 0, none⟩) HZ.out).trans hc1
              have HB2 := Lib.hid (HB.out.drew.trans (hb2.mono HB.out.size))
              have HZ2 : Hid (w.heap.size < w2.heap.size) := Lib.hid (Nat.lt_of_lt_of_le HZ.out hb2.size)
              clear hb2
              go_wp2
              go_roundw
              case rel => exact ⟨k + 1, by go_num, by omega, by rw [HE.out], hc2, HB2, HZ2⟩
              case measure => simp [intOf]; omega)
          · have t1 : ((m0 : Int) == 0) = false := beq_false_of_ne (by omega)
            by_cases hdm : d0 < m0
            · have HE : Hid (leastW xs i (k + 1) = d0) := Lib.hid (by rw [HSt.out, if_pos (.inr hdm)])
              have t2 : (d0 : Int) < (m0 : Int) := by omega
              clear hm0 hdm
              go_wp2
              go_region_with (go_at_call 76; refine (HDs.out _).mono ?_; rintro e w2 ⟨rfl, hb2⟩)
              all_goals (
                have hc2 : w2.cell? ⟨w.heap.size, 0, none⟩ = some (.slice (some ⟨b, o, none⟩) xs.length c) := (hb2.cell (p := ⟨w.heap.size, 0, none⟩) HZ.out).trans hc1
                have HB2 := Lib.hid (HB.out.drew.trans (hb2.mono HB.out.size))
                have HZ2 : Hid (w.heap.size < w2.heap.size) := Lib.hid (Nat.lt_of_lt_of_le HZ.out hb2.size)
                clear hb2
                go_wp2
                go_roundw
                case rel => exact ⟨k + 1, by go_num, by omega, by rw [HE.out], hc2, HB2, HZ2⟩
                case measure => simp [intOf]; omega)
            · have HE : Hid (leastW xs i (k + 1) = m0) := Lib.hid (by rw [HSt.out, if_neg (by omega)])
              have t2 : ¬ (d0 : Int) < (m0 : Int) := by omega
              clear hm0 hdm
              go_wp2
              go_region_with (go_at_call 76; refine (HDs.out _).mono ?_; rintro e w2 ⟨rfl, hb2⟩)
              all_goals (
                have hc2 : w2.cell? ⟨w.heap.size, 0, none⟩ = some (.slice (some ⟨b, o, none⟩) xs.length c) := (hb2.cell (p := ⟨w.heap.size, 0, none⟩) HZ.out).trans hc1
                have HB2 := Lib.hid (HB.out.drew.trans (hb2.mono HB.out.size))
                have HZ2 : Hid (w.heap.size < w2.heap.size) := Lib.hid (Nat.lt_of_lt_of_le HZ.out hb2.size)
                clear hb2
                go_wp2
                go_roundw
                case rel => exact ⟨k + 1, by go_num, by omega, by rw [HE.out], hc2, HB2, HZ2⟩
                case measure => simp [intOf]; omega)
        · obtain rfl : k = i := by omega
          have HE := Lib.hid (leastW_row xs k)
          go_wp2
          go_roundw
          case rel => exact ⟨k + 1, by go_num, by omega, by rw [HE.out], hc1, HB, HZ⟩
          case measure => simp [intOf]; omega
    · obtain rfl : i = xs.length := by omega
      go_wp2
      go_ret
      exact ⟨by rw [← HAll.out]; rfl, HB.out⟩
end Go.Proofs.Ytgdiffdpjpkleaa
