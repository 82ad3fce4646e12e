/-
  sumOf of the program: the sum of fractions of parts. Used by the claims on chapter 7.
-/
import Derived.Test.YtomhjfjfmjacfaaFrW
import Derived.Test.YtomhjfjfmjacfaaSeqW
namespace Go.Proofs.Ytomhjfjfmjacfaa
open Go.RowKit
set_option linter.unusedVariables false

/-- Fractions of parts of D. -/
def frs (D : Nat) (ps : List Nat) : List (Nat × Nat) := ps.map fun p => cutN p D
theorem frs_len (D : Nat) (ps : List Nat) : (frs D ps).length = ps.length := List.length_map ..
theorem sum_take_succ {ps : List Nat} {k p : Nat} (h : ps[k]? = some p) : (ps.take (k + 1)).sum = (ps.take k).sum + p := by
  rw [List.take_add_one, h]; simp
theorem sum_take_le (ps : List Nat) (k : Nat) : (ps.take k).sum ≤ ps.sum := by
  conv => rhs; rw [← List.take_append_drop k ps, List.sum_append]
  omega
theorem other_alloc {w : World} {g : Nat} {x y : Int} (h : Two w g x y) (o : Obj) : Two (w.alloc o) g x y := h.below (below_alloc w o)

set_option maxHeartbeats 4000000 in
set_option maxRecDepth 20000 in
theorem sumOf_any (a : Option Addr) (g n c D : Nat) (ps : List Nat) (w : World) (hn : n = ps.length) (hs : SrcV w a g (prs (frs D ps))) (hD : 0 < D) (hD2 : D ≤ 10000000000) (hS : ps.sum ≤ 1000000000000) (hn2 : n ≤ 1000) :
    Calls Try.prog 69 #[.slice a n c] w fun e w' => e = .returned (.agg #[.int .i64 (((cutN ps.sum D).1 : Nat) : Int), .int .i64 (((cutN ps.sum D).2 : Nat) : Int)]) ∧ Below w.heap.size w w' := by
  have HS := Lib.hid fun W hb => hs.below (w' := W) hb
  have HX := Lib.hid hs.1
  have HFin : Hid ((ps.take n).sum = ps.sum) := Lib.hid (by rw [hn, List.take_length])
  have HR0 := Lib.hid ((two_new w 0 0).below (below_alloc _ (.cells #[.int .i64 0, .int .i64 1] 28)))
  have hT0 := two_new (w.alloc (.cells #[.int .i64 0, .int .i64 0] 28)) 0 1
  have e0 : (w.alloc (.cells #[.int .i64 0, .int .i64 0] 28)).heap.size = w.heap.size + 1 := by simp
  rw [e0] at hT0
  have HT0 := Lib.hid hT0
  have HB0 := Lib.hid ((below_alloc w (.cells #[.int .i64 0, .int .i64 0] 28)).alloc (by simp) (.cells #[.int .i64 0, .int .i64 1] 28))
  have HZ : Hid ((0, 1) = cutN (ps.take 0).sum D) := Lib.hid (by simp [cut_zero hD])
  have HN := Lib.hid hn
  clear hs hT0 e0 hn
  go_enter Try.func69, Try.ntmps69
  go_wp2
  go_loopw [12] (fun v wr => ∃ (k m1 m2 : Nat), v = .int .i64 k ∧ k ≤ n ∧ Hid (Two wr (w.heap.size + 1) m1 m2) ∧ Hid (Two wr w.heap.size 0 0) ∧ Hid (Below w.heap.size w wr) ∧ Hid ((m1, m2) = cutN (ps.take k).sum D)) (fun v _ => n - (intOf v).toNat)
  case atStart => exact ⟨0, 0, 1, rfl, Nat.zero_le _, HT0, HR0, HB0, HZ⟩
  case round =>
    obtain ⟨k, m1, m2, rfl, hk, HT, HR, HB, HM⟩ := hrel
    by_cases hlt : k < n
    · have hlt2 : k < (frs D ps).length := by rw [frs_len, ← HN.out]; exact hlt
      obtain rfl := HX.out (by rw [prs_len, frs_len, ← HN.out]; omega)
      have hkl : k < ps.length := by rw [← HN.out]; exact hlt
      have hpk : ps[k]? = some ps[k] := List.getElem?_eq_getElem hkl
      have hfk : (frs D ps)[k] = cutN ps[k] D := by simp [frs]
      have d1 := (HS.out wr HB.out).2 _ _ (prs_at hlt2).1
      have d2 := (HS.out wr HB.out).2 _ _ (prs_at hlt2).2
      rw [hfk] at d1 d2
      have e2 : 2 * k = k * 2 := Nat.mul_comm _ _
      rw [e2] at d1 d2
      have HSs := Lib.hid (sum_take_succ hpk)
      have b0 := sum_take_le ps (k + 1)
      rw [HSs.out] at b0
      have HM1 : Hid (m1 = (cutN (ps.take k).sum D).1 ∧ m2 = (cutN (ps.take k).sum D).2) := Lib.hid (by rw [← HM.out]; exact ⟨rfl, rfl⟩)
      generalize ps[k] = p at *
      generalize (ps.take k).sum = S at *
      obtain ⟨c1, c2, c3, c4, c5, c6, _, _⟩ := cut_add (a := S) (c := p) hD rfl rfl rfl
      have O := Lib.hid fun W => oneDen_any (cutN S D).1 (cutN S D).2 (cutN p D).1 (cutN p D).2 _ _ _ W (cut_pos hD) (cut_pos hD) (Nat.le_trans (cut_le2 S D) (by omega)) (Nat.le_trans (cut_le2 p D) (by omega)) rfl rfl rfl (Nat.le_trans c3 (by omega)) (Nat.le_trans c4 (by omega)) (Nat.le_trans c5 (by omega))
      rw [← HM1.out.1] at O c1 c3
      rw [← HM1.out.2] at O c1 c3 c4 c5 c6
      generalize (cutN p D).1 = y1 at *
      generalize (cutN p D).2 = y2 at *
      generalize m1 * (y2 / Nat.gcd m2 y2) = n1 at *
      generalize y1 * (m2 / Nat.gcd m2 y2) = n2 at *
      generalize m2 / Nat.gcd m2 y2 * y2 = dd at *
      have F := Lib.hid fun W => frac_any (n1 + n2) dd W (by omega) c6 (by omega)
      rw [c1] at F
      have HX2 : Hid (((cutN (S + p) D).1, (cutN (S + p) D).2) = cutN (ps.take (k + 1)).sum D) := Lib.hid (by rw [HSs.out])
      generalize (cutN (S + p) D).1 = f1 at F HX2
      generalize (cutN (S + p) D).2 = f2 at F HX2
      have q1 : ((n1 + n2 : Nat) : Int) = (n1 : Int) + (n2 : Int) := by omega
      rw [q1] at F
      have q2 : (n1 : Int) ≤ 1000000000000 := by omega
      have q3 : (n2 : Int) ≤ 1000000000000 := by omega
      have q4 : (0 : Int) ≤ (n1 : Int) := by omega
      have q5 : (0 : Int) ≤ (n2 : Int) := by omega
      have k0 : (0 : Int) ≤ (k : Int) := by omega
      have k1 : (k : Int) < (n : Int) := by omega
      have k2 : (k : Int) + 1 ≤ 1001 := by omega
      have HY := Lib.hid (two_new wr y1 y2)
      have HTa := Lib.hid (other_alloc HT.out (.cells #[.int .i64 y1, .int .i64 y2] 28))
      have HRa := Lib.hid (other_alloc HR.out (.cells #[.int .i64 y1, .int .i64 y2] 28))
      have HBa := Lib.hid (HB.out.alloc HB.out.size (.cells #[.int .i64 y1, .int .i64 y2] 28))
      have t1 := load_two HTa.out
      have t2 := load_two HY.out
      have t3 := HTa.out.cell0
      have t4 := HTa.out.cell1
      clear c1 c3 c4 c5 c6 b0 hfk hpk q1 hkl
      go_wp2_with fail
      refine (O.out _).mono ?_
      rintro e w2 ⟨rfl, hb⟩
      have HT2 := Lib.hid (HTa.out.below hb)
      have HR2 := Lib.hid (HRa.out.below hb)
      have HB2 := Lib.hid (HBa.out.trans (hb.mono HBa.out.size))
      clear hb t1 t2 t3 t4 d1 d2
      go_wp2_with fail
      refine (F.out _).mono ?_
      rintro e w3 ⟨rfl, hb⟩
      have HT3 := Lib.hid (HT2.out.below hb)
      have HR3 := Lib.hid (HR2.out.below hb)
      have HB3 := Lib.hid (HB2.out.trans (hb.mono HB2.out.size))
      have r0 := HT3.out.cell0
      have r1 := HT3.out.cell1
      have f0 := HT3.out.frozen 0
      have f9 := HT3.out.frozen 1
      clear hb
      go_wp2
      go_roundw
      case rel => exact ⟨k + 1, f1, f2, by go_num, by omega, Lib.hid ((HT3.out.set0 _).set1 _), Lib.hid ((HR3.out.other (p := ⟨w.heap.size + 1, 0, none⟩) (by show w.heap.size + 1 ≠ w.heap.size; omega) _).other (p := ⟨w.heap.size + 1, 1, none⟩) (by show w.heap.size + 1 ≠ w.heap.size; omega) _), Lib.hid ((HB3.out.setCell (p := ⟨w.heap.size + 1, 0, none⟩) (by simp) _).setCell (p := ⟨w.heap.size + 1, 1, none⟩) (by simp) _), HX2⟩
      case measure => simp [intOf]; omega
    · obtain rfl : k = n := by omega
      have HE : Hid ((cutN ps.sum D).1 = m1 ∧ (cutN ps.sum D).2 = m2) := Lib.hid (by rw [← HFin.out, ← HM.out]; exact ⟨rfl, rfl⟩)
      have r0 := HT.out.cell0
      have r1 := HT.out.cell1
      have f0 := HR.out.frozen 0
      have f9 := HR.out.frozen 1
      have g0 := HR.out.cell0
      have g1 := HR.out.cell1
      go_wp2
      refine bodyPost_ret (res_twoF rfl _ rfl ((HR.out.set0 _).set1 _)) rfl ?_
      exact ⟨by rw [HE.out.1, HE.out.2], (HB.out.setCell (p := ⟨w.heap.size, 0, none⟩) (by simp) _).setCell (p := ⟨w.heap.size, 1, none⟩) (by simp) _⟩
end Go.Proofs.Ytomhjfjfmjacfaa
