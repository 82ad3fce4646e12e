/-
  DepthCounts, the program's and the model's: both answer alike. Used by the claims on chapter 9.
-/
import Derived.Test.YtdphjnbelggcfaaSixW
import Derived.Test.YtdphjnbelggcfaaNonW
import Derived.Test.YtdphjnbelggcfaaIsTableB
namespace Go.Proofs.Ytdphjnbelggcfaa
open Go.RowKit
set_option linter.unusedVariables false

def dcN (xs : List ByteArray) (k j : Nat) : Nat := (xs.take k).countP fun x => x.size == j
theorem dc_succ {xs : List ByteArray} {k : Nat} {x : ByteArray} (h : xs[k]? = some x) (j : Nat) : dcN xs (k + 1) j = dcN xs k j + if j = x.size then 1 else 0 := by
  unfold dcN
  rw [List.take_add_one, h, List.countP_append]
  simp only [Option.toList_some, List.countP_cons, List.countP_nil, Nat.zero_add, beq_iff_eq]
  by_cases e : j = x.size
  · rw [if_pos e, if_pos e.symm]
  · rw [if_neg e, if_neg (Ne.symm e)]
theorem dc_le (xs : List ByteArray) (k j : Nat) : dcN xs k j ≤ xs.length := by
  unfold dcN
  refine Nat.le_trans List.countP_le_length ?_
  rw [List.length_take]; omega
def dcZ (xs : List ByteArray) (k j : Nat) : Int := ((dcN xs k j : Nat) : Int)
def dcR (xs : List ByteArray) (j : Nat) : Int := if tableB xs = true then dcZ xs xs.length j else 0
theorem size5 {xs : List ByteArray} (ht : tableB xs = true) : ∀ x ∈ xs, 1 ≤ x.size ∧ x.size ≤ 5 := fun x hx => by
  have := ((tableB_iff xs).1 ht).2.1 x hx
  simp only [marksL, Bool.and_eq_true, decide_eq_true_eq, bl_len] at this
  exact this.1
theorem res_six1 {fn : Func} {p : Tmp} (h : fn.results = #[.cell p 49]) (tmps : Array Value) {w : World} {g : Nat} {f : Nat → Int} (hp : tmps.getD p undef = .pointer (some ⟨g, 0, none⟩)) (hb : Six w g f) : (results fn tmps).run Try.prog w = .ok (.agg (six f)) w := by
  rw [results_cell_row h tmps w g 49 (six f) (0, 0) _ hp hb Try.underlying49 rfl six_size]
/-- A whole of six is stored over another. -/
theorem Six.store {w : World} {g : Nat} {f : Nat → Int} (h : Six w g f) (u : Nat → Int) : Six ((((((w.setCell ⟨g, 0, none⟩ (.int .i64 (u 0))).setCell ⟨g, 1, none⟩ (.int .i64 (u 1))).setCell ⟨g, 2, none⟩ (.int .i64 (u 2))).setCell ⟨g, 3, none⟩ (.int .i64 (u 3))).setCell ⟨g, 4, none⟩ (.int .i64 (u 4))).setCell ⟨g, 5, none⟩ (.int .i64 (u 5))) g u := by
  refine ((((((h.set 0 (by omega) _).set 1 (by omega) _).set 2 (by omega) _).set 3 (by omega) _).set 4 (by omega) _).set 5 (by omega) _).congr fun j hj => ?_
  rcases (show j = 0 ∨ j = 1 ∨ j = 2 ∨ j = 3 ∨ j = 4 ∨ j = 5 by omega) with rfl | rfl | rfl | rfl | rfl | rfl <;> simp
theorem below_six {w W : World} (h : Below w.heap.size w W) {g : Nat} (hg : w.heap.size ≤ g) (u : Nat → Int) : Below w.heap.size w ((((((W.setCell ⟨g, 0, none⟩ (.int .i64 (u 0))).setCell ⟨g, 1, none⟩ (.int .i64 (u 1))).setCell ⟨g, 2, none⟩ (.int .i64 (u 2))).setCell ⟨g, 3, none⟩ (.int .i64 (u 3))).setCell ⟨g, 4, none⟩ (.int .i64 (u 4))).setCell ⟨g, 5, none⟩ (.int .i64 (u 5))) :=
  (((((h.setCell (p := ⟨g, 0, none⟩) hg _).setCell (p := ⟨g, 1, none⟩) hg _).setCell (p := ⟨g, 2, none⟩) hg _).setCell (p := ⟨g, 3, none⟩) hg _).setCell (p := ⟨g, 4, none⟩) hg _).setCell (p := ⟨g, 5, none⟩) hg _

set_option maxHeartbeats 4000000 in
set_option maxRecDepth 8000 in
theorem depthCounts_any (a : Option Addr) (b o c : Nat) (xs : List ByteArray) (w : World) (h : ListIn w a b o xs) (ht : tableB xs = true) :
    Calls Try.prog 97 #[.agg #[.slice a xs.length c]] w fun e w' => e = .returned (.agg (six (dcZ xs xs.length))) ∧ Below w.heap.size w w' := by
  have hl := h.len
  have hn10 := ((tableB_iff xs).1 ht).1.2
  have H5 := Lib.hid (size5 ht)
  have HSc := Lib.hid fun k x (hx : xs[k]? = some x) => dc_succ hx
  have HLe := Lib.hid (dc_le xs)
  have HS := Lib.hid h
  have hb0 : Below w.heap.size w (((w.alloc (.cells #[.slice a xs.length c] 35)).alloc (.cells (six fun _ => 0) 49)).alloc (.cells (six fun _ => 0) 49)) := (((below_alloc w _).alloc (by simp) _).alloc (by simp; omega) _)
  have hc0 := keep_cell ((w.alloc (.cells #[.slice a xs.length c] 35)).alloc (.cells (six fun _ => 0) 49)) (.cells (six fun _ => 0) 49) (keep_cell (w.alloc (.cells #[.slice a xs.length c] 35)) (.cells (six fun _ => 0) 49) (cell_new w (.slice a xs.length c) 35))
  have h1 : Six (((w.alloc (.cells #[.slice a xs.length c] 35)).alloc (.cells (six fun _ => 0) 49)).alloc (.cells (six fun _ => 0) 49)) (w.heap.size + 1) (fun _ => 0) := by
    have h := (six_new (w.alloc (.cells #[.slice a xs.length c] 35)) (fun _ => 0)).below (below_alloc _ (.cells (six fun _ => 0) 49))
    have e : (w.alloc (.cells #[.slice a xs.length c] 35)).heap.size = w.heap.size + 1 := by simp
    rw [e] at h; exact h
  have h2 : Six (((w.alloc (.cells #[.slice a xs.length c] 35)).alloc (.cells (six fun _ => 0) 49)).alloc (.cells (six fun _ => 0) 49)) (w.heap.size + 1 + 1) (fun _ => 0) := by
    have h := six_new ((w.alloc (.cells #[.slice a xs.length c] 35)).alloc (.cells (six fun _ => 0) 49)) (fun _ => 0)
    have e : ((w.alloc (.cells #[.slice a xs.length c] 35)).alloc (.cells (six fun _ => 0) 49)).heap.size = w.heap.size + 1 + 1 := by simp
    rw [e] at h; exact h
  have HB0 := Lib.hid hb0
  have HC0 := Lib.hid hc0
  have H1 := Lib.hid h1
  have H2 := Lib.hid h2
  clear h ht hb0 hc0 h1 h2
  go_enter Try.func97, Try.ntmps97
  go_wp2
  go_loopw [10] (fun v wr => ∃ k : Nat, v = .int .i64 (k : Int) ∧ k ≤ xs.length ∧ Hid (Six wr (w.heap.size + 1) fun _ => 0) ∧ Hid (Six wr (w.heap.size + 1 + 1) (dcZ xs k)) ∧ Hid (wr.cell? ⟨w.heap.size, 0, none⟩ = some (.slice a xs.length c)) ∧ Hid (Below w.heap.size w wr)) (fun v _ => xs.length - (intOf v).toNat)
  case atStart => exact ⟨0, rfl, Nat.zero_le _, H1, Lib.hid (H2.out.congr fun j _ => by simp [dcZ, dcN]), HC0, HB0⟩
  case round =>
    obtain ⟨k, rfl, hk, HA, HX, HC, HB⟩ := hrel
    have l1 := HC.out
    by_cases hlt : k < xs.length
    · obtain rfl := HS.out.src.1 (by omega)
      have hx := List.getElem?_eq_getElem hlt
      have d1 := (HS.out.below HB.out).src.2 k _ hx
      have hx5 := H5.out _ (List.getElem_mem hlt)
      have HSx := Lib.hid (HSc.out k _ hx)
      generalize xs[k] = x at *
      have d2 := HX.out.cell x.size (by omega)
      have d3 := HX.out.frozen x.size
      have hz := HLe.out k x.size
      have HZ : Hid (dcZ xs (k + 1) x.size = dcZ xs k x.size + 1) := Lib.hid (by unfold dcZ; rw [HSx.out, if_pos rfl]; rfl)
      have HX2 : Hid (Six (wr.setCell ⟨w.heap.size + 1 + 1, x.size, none⟩ (.int .i64 (dcZ xs k x.size + 1))) (w.heap.size + 1 + 1) (dcZ xs (k + 1))) := Lib.hid ((HX.out.set x.size (by omega) _).congr fun j hj => by
        by_cases e : j = x.size
        · subst e; rw [if_pos rfl, HZ.out]
        · rw [if_neg e]; unfold dcZ; rw [HSx.out, if_neg e]; simp)
      have HA2 := Lib.hid (HA.out.other (p := ⟨w.heap.size + 1 + 1, x.size, none⟩) (by simp) (.int .i64 (dcZ xs k x.size + 1)))
      have HB2 := Lib.hid (HB.out.setCell (p := ⟨w.heap.size + 1 + 1, x.size, none⟩) (by simp; omega) (.int .i64 (dcZ xs k x.size + 1)))
      have HC2 : Hid ((wr.setCell ⟨w.heap.size + 1 + 1, x.size, none⟩ (.int .i64 (dcZ xs k x.size + 1))).cell? ⟨w.heap.size, 0, none⟩ = some (.slice (some ⟨b, o, none⟩) xs.length c)) := Lib.hid (by
        rw [World.cell?_of_block (w := wr) (a := ⟨w.heap.size, 0, none⟩) (Below.heap_setCell _ _ _ _ (by simp; omega))]; exact HC.out)
      have hzz : 0 ≤ dcZ xs k x.size ∧ dcZ xs k x.size ≤ 10 := by unfold dcZ; omega
      generalize dcZ xs k x.size = z at *
      obtain ⟨z0, z1⟩ := hzz
      have i0 : (0 : Int) ≤ (k : Int) := by omega
      have i1 : (k : Int) < (xs.length : Int) := by omega
      have i2 : (0 : Int) ≤ (x.size : Int) := by omega
      have i3 : (x.size : Int) < 6 := by omega
      clear hx hz HSx
      go_wp2
      go_roundw
      case rel => exact ⟨k + 1, by go_num, by omega, HA2, HX2, HC2, HB2⟩
      case measure => simp [intOf]; omega
    · obtain rfl : k = xs.length := by omega
      have g0 := load_six HX.out
      have f0 := HA.out.frozen 0
      have f1 := HA.out.frozen 1
      have f2 := HA.out.frozen 2
      have f3 := HA.out.frozen 3
      have f4 := HA.out.frozen 4
      have f5 := HA.out.frozen 5
      have k0 := HA.out.cell 0 (by omega)
      have k1 := HA.out.cell 1 (by omega)
      have k2 := HA.out.cell 2 (by omega)
      have k3 := HA.out.cell 3 (by omega)
      have k4 := HA.out.cell 4 (by omega)
      have k5 := HA.out.cell 5 (by omega)
      have m0 := HX.out.cell 0 (by omega)
      have m1 := HX.out.cell 1 (by omega)
      have m2 := HX.out.cell 2 (by omega)
      have m3 := HX.out.cell 3 (by omega)
      have m4 := HX.out.cell 4 (by omega)
      have m5 := HX.out.cell 5 (by omega)
      go_wp2
      refine bodyPost_ret (res_six1 rfl _ rfl (HA.out.store _)) rfl ?_
      exact ⟨rfl, below_six HB.out (by omega) _⟩
end Go.Proofs.Ytdphjnbelggcfaa
