/-
  DepthCounts, the program's and the model's: both answer alike. Used by the claims on chapter 9.
-/
import Derived.Test.YtdphjnbelggcfaaDcW
namespace Go.Proofs.Ytdphjnbelggcfaa
open Go.RowKit
set_option linter.unusedVariables false

theorem six_two (w : World) (o : Obj) (f : Nat → Int) : Six ((w.alloc o).alloc (.cells (six f) 49)) (w.heap.size + 1) f := by
  have h := six_new (w.alloc o) f
  have e : (w.alloc o).heap.size = w.heap.size + 1 := by simp
  rw [e] at h; exact h
theorem six_three (w : World) (o p : Obj) (f : Nat → Int) : Six (((w.alloc o).alloc p).alloc (.cells (six f) 49)) (w.heap.size + 1 + 1) f := by
  have h := six_new ((w.alloc o).alloc p) f
  have e : ((w.alloc o).alloc p).heap.size = w.heap.size + 1 + 1 := by simp
  rw [e] at h; exact h
set_option maxHeartbeats 4000000 in
set_option maxRecDepth 8000 in
theorem depthCountsT_any (a : Option Addr) (b o c : Nat) (xs : List ByteArray) (w : World) (h : ListIn w a b o xs) :
    Calls Try.prog 46 #[.agg #[.slice a xs.length c]] w fun e w' => e = .returned (.tuple #[.agg (six (dcR xs)), .bool (tableB xs)]) ∧ Below w.heap.size w w' := by
  have hl := h.len
  have F := Lib.hid fun W hb => isTable_any a b o c xs W (h.below (w' := W) hb)
  have HB0 := Lib.hid ((below_alloc w (.cells #[.slice a xs.length c] 35)).alloc (by simp) (.cells (six fun _ => 0) 49))
  have HC0 := Lib.hid (keep_cell (w.alloc (.cells #[.slice a xs.length c] 35)) (.cells (six fun _ => 0) 49) (cell_new w (.slice a xs.length c) 35))
  have H1 := Lib.hid (six_two w (.cells #[.slice a xs.length c] 35) fun _ => 0)
  cases ht : tableB xs with
  | true =>
    have G := Lib.hid fun W hb => depthCounts_any a b o c xs W (h.below (w' := W) hb) ht
    have HR : Hid (dcZ xs xs.length = dcR xs) := Lib.hid (by funext j; unfold dcR; rw [if_pos ht])
    rw [ht] at F
    rw [HR.out] at G
    clear ht h
    generalize dcR xs = f at *
    go_enter Try.func46, Try.ntmps46
    go_wp2_with fail
    refine (F.out _ HB0.out).mono ?_
    rintro e w1 ⟨rfl, hb⟩
    have l1 := (hb.cell (World.block_lt_of_cell? _ _ HC0.out)).trans HC0.out
    have HS1 := Lib.hid (H1.out.below hb)
    have HB1 := Lib.hid (HB0.out.trans (hb.mono HB0.out.size))
    clear hb
    go_wp2_with fail
    refine (G.out _ HB1.out).mono ?_
    rintro e w2 ⟨rfl, hb⟩
    have HS2 := Lib.hid (HS1.out.below hb)
    have HB2 := Lib.hid (HB1.out.trans (hb.mono HB1.out.size))
    clear hb l1
    have f0 := HS2.out.frozen 0
    have f1 := HS2.out.frozen 1
    have f2 := HS2.out.frozen 2
    have f3 := HS2.out.frozen 3
    have f4 := HS2.out.frozen 4
    have f5 := HS2.out.frozen 5
    have k0 := HS2.out.cell 0 (by omega)
    have k1 := HS2.out.cell 1 (by omega)
    have k2 := HS2.out.cell 2 (by omega)
    have k3 := HS2.out.cell 3 (by omega)
    have k4 := HS2.out.cell 4 (by omega)
    have k5 := HS2.out.cell 5 (by omega)
    go_wp2
    refine bodyPost_ret (res_six rfl _ rfl (HS2.out.store _)) rfl ?_
    exact ⟨rfl, below_six HB2.out (by omega) _⟩
  | false =>
    have HR : Hid (dcR xs = fun _ => 0) := Lib.hid (by funext j; unfold dcR; rw [if_neg (by rw [ht]; decide)])
    rw [ht] at F
    rw [HR.out]
    clear ht h
    go_enter Try.func46, Try.ntmps46
    go_wp2_with fail
    refine (F.out _ HB0.out).mono ?_
    rintro e w1 ⟨rfl, hb⟩
    have HS2 := Lib.hid (H1.out.below hb)
    have HB2 := Lib.hid (HB0.out.trans (hb.mono HB0.out.size))
    clear hb
    have f0 := HS2.out.frozen 0
    have f1 := HS2.out.frozen 1
    have f2 := HS2.out.frozen 2
    have f3 := HS2.out.frozen 3
    have f4 := HS2.out.frozen 4
    have f5 := HS2.out.frozen 5
    have k0 := HS2.out.cell 0 (by omega)
    have k1 := HS2.out.cell 1 (by omega)
    have k2 := HS2.out.cell 2 (by omega)
    have k3 := HS2.out.cell 3 (by omega)
    have k4 := HS2.out.cell 4 (by omega)
    have k5 := HS2.out.cell 5 (by omega)
    go_wp2
    refine bodyPost_ret (res_six rfl _ rfl (HS2.out.store fun _ => 0)) rfl ?_
    exact ⟨rfl, below_six HB2.out (by omega) fun _ => 0⟩

/-! ### The model's -/
set_option maxHeartbeats 4000000 in
set_option maxRecDepth 8000 in
theorem sDepthCounts_any (a : Option Addr) (b o c : Nat) (xs : List ByteArray) (w : World) (h : ListIn w a b o xs) :
    Calls Try.prog 45 #[.agg #[.slice a xs.length c]] w fun e w' => e = .returned (.tuple #[.agg (six (dcR xs)), .bool (tableB xs)]) ∧ Below w.heap.size w w' := by
  have hl := h.len
  have F := Lib.hid fun W hb => stable_any a b o c xs W (h.below (w' := W) hb)
  have HB0 := Lib.hid (((below_alloc w (.cells #[.slice a xs.length c] 35)).alloc (by simp) (.cells (six fun _ => 0) 49)).alloc (by simp; omega) (.cells (six fun _ => 0) 49))
  have HC0 := Lib.hid (keep_cell ((w.alloc (.cells #[.slice a xs.length c] 35)).alloc (.cells (six fun _ => 0) 49)) (.cells (six fun _ => 0) 49) (keep_cell (w.alloc (.cells #[.slice a xs.length c] 35)) (.cells (six fun _ => 0) 49) (cell_new w (.slice a xs.length c) 35)))
  have H1 := Lib.hid ((six_two w (.cells #[.slice a xs.length c] 35) fun _ => 0).below (below_alloc _ (.cells (six fun _ => 0) 49)))
  have H2 := Lib.hid (six_three w (.cells #[.slice a xs.length c] 35) (.cells (six fun _ => 0) 49) fun _ => 0)
  cases ht : tableB xs with
  | true =>
    have hn10 := ((tableB_iff xs).1 ht).1.2
    have H5 := Lib.hid (size5 ht)
    have HSc := Lib.hid fun k x (hx : xs[k]? = some x) => dc_succ hx
    have HLe := Lib.hid (dc_le xs)
    have HS := Lib.hid h
    have HR : Hid (dcZ xs xs.length = dcR xs) := Lib.hid (by funext j; unfold dcR; rw [if_pos ht])
    rw [ht] at F
    clear ht h
    go_enter Try.func45, Try.ntmps45
    go_wp2_with fail
    refine (F.out _ HB0.out).mono ?_
    rintro e w1 ⟨rfl, hb⟩
    have HC1 := Lib.hid ((hb.cell (World.block_lt_of_cell? _ _ HC0.out)).trans HC0.out)
    have HS1 := Lib.hid (H1.out.below hb)
    have HS2 := Lib.hid (H2.out.below hb)
    have HB1 := Lib.hid (HB0.out.trans (hb.mono HB0.out.size))
    clear hb
    go_wp2
    go_loopw [5] (fun v wr => ∃ k : Nat, v = .int .i64 (k : Int) ∧ k ≤ xs.length ∧ Hid (Six wr (w.heap.size + 1) fun _ => 0) ∧ Hid (Six wr (w.heap.size + 1 + 1) (dcZ xs k)) ∧ Hid (wr.cell? ⟨w.heap.size, 0, none⟩ = some (.slice a xs.length c)) ∧ Hid (Below w.heap.size w wr)) (fun v _ => xs.length - (intOf v).toNat)
    case atStart => exact ⟨0, rfl, Nat.zero_le _, HS1, Lib.hid (HS2.out.congr fun j _ => by simp [dcZ, dcN]), HC1, HB1⟩
    case round =>
      obtain ⟨k, rfl, hk, HA, HX, HC, HB⟩ := hrel
      have l1 := HC.out
      by_cases hlt : k < xs.length
      · obtain rfl := HS.out.src.1 (by omega)
        have hx := List.getElem?_eq_getElem hlt
        have d1 := (HS.out.below HB.out).src.2 k _ hx
        have hx5 := H5.out _ (List.getElem_mem hlt)
        have HSx := Lib.hid (HSc.out k _ hx)
        generalize xs[k] = x at *
        have d2 := HX.out.cell x.size (by omega)
        have d3 := HX.out.frozen x.size
        have hz := HLe.out k x.size
        have HZ : Hid (dcZ xs (k + 1) x.size = dcZ xs k x.size + 1) := Lib.hid (by unfold dcZ; rw [HSx.out, if_pos rfl]; rfl)
        have HX2 : Hid (Six (wr.setCell ⟨w.heap.size + 1 + 1, x.size, none⟩ (.int .i64 (dcZ xs k x.size + 1))) (w.heap.size + 1 + 1) (dcZ xs (k + 1))) := Lib.hid ((HX.out.set x.size (by omega) _).congr fun j hj => by
          by_cases e : j = x.size
          · subst e; rw [if_pos rfl, HZ.out]
          · rw [if_neg e]; unfold dcZ; rw [HSx.out, if_neg e]; simp)
        have HA2 := Lib.hid (HA.out.other (p := ⟨w.heap.size + 1 + 1, x.size, none⟩) (by simp) (.int .i64 (dcZ xs k x.size + 1)))
        have HB2 := Lib.hid (HB.out.setCell (p := ⟨w.heap.size + 1 + 1, x.size, none⟩) (by simp; omega) (.int .i64 (dcZ xs k x.size + 1)))
        have HC2 : Hid ((wr.setCell ⟨w.heap.size + 1 + 1, x.size, none⟩ (.int .i64 (dcZ xs k x.size + 1))).cell? ⟨w.heap.size, 0, none⟩ = some (.slice (some ⟨b, o, none⟩) xs.length c)) := Lib.hid (by
          rw [World.cell?_of_block (w := wr) (a := ⟨w.heap.size, 0, none⟩) (Below.heap_setCell _ _ _ _ (by simp; omega))]; exact HC.out)
        have hzz : 0 ≤ dcZ xs k x.size ∧ dcZ xs k x.size ≤ 10 := by unfold dcZ; omega
        generalize dcZ xs k x.size = z at *
        obtain ⟨z0, z1⟩ := hzz
        have i0 : (0 : Int) ≤ (k : Int) := by omega
        have i1 : (k : Int) < (xs.length : Int) := by omega
        have i2 : (0 : Int) ≤ (x.size : Int) := by omega
        have i3 : (x.size : Int) < 6 := by omega
        clear hx hz HSx
        go_wp2
        go_roundw
        case rel => exact ⟨k + 1, by go_num, by omega, HA2, HX2, HC2, HB2⟩
        case measure => simp [intOf]; omega
      · obtain rfl : k = xs.length := by omega
        have g0 := load_six HX.out
        have f0 := HA.out.frozen 0
        have f1 := HA.out.frozen 1
        have f2 := HA.out.frozen 2
        have f3 := HA.out.frozen 3
        have f4 := HA.out.frozen 4
        have f5 := HA.out.frozen 5
        have k0 := HA.out.cell 0 (by omega)
        have k1 := HA.out.cell 1 (by omega)
        have k2 := HA.out.cell 2 (by omega)
        have k3 := HA.out.cell 3 (by omega)
        have k4 := HA.out.cell 4 (by omega)
        have k5 := HA.out.cell 5 (by omega)
        have m0 := HX.out.cell 0 (by omega)
        have m1 := HX.out.cell 1 (by omega)
        have m2 := HX.out.cell 2 (by omega)
        have m3 := HX.out.cell 3 (by omega)
        have m4 := HX.out.cell 4 (by omega)
        have m5 := HX.out.cell 5 (by omega)
        go_wp2
        refine bodyPost_ret (res_six rfl _ rfl (HA.out.store _)) rfl ?_
        exact ⟨by rw [← HR.out]; rfl, below_six HB.out (by omega) _⟩
  | false =>
    have HR : Hid (dcR xs = fun _ => 0) := Lib.hid (by funext j; unfold dcR; rw [if_neg (by rw [ht]; decide)])
    rw [ht] at F
    rw [HR.out]
    clear ht h
    go_enter Try.func45, Try.ntmps45
    go_wp2_with fail
    refine (F.out _ HB0.out).mono ?_
    rintro e w1 ⟨rfl, hb⟩
    have HS2 := Lib.hid (H1.out.below hb)
    have HS3 := Lib.hid (H2.out.below hb)
    have HB2 := Lib.hid (HB0.out.trans (hb.mono HB0.out.size))
    clear hb
    have g0 := load_six HS3.out
    have f0 := HS2.out.frozen 0
    have f1 := HS2.out.frozen 1
    have f2 := HS2.out.frozen 2
    have f3 := HS2.out.frozen 3
    have f4 := HS2.out.frozen 4
    have f5 := HS2.out.frozen 5
    have k0 := HS2.out.cell 0 (by omega)
    have k1 := HS2.out.cell 1 (by omega)
    have k2 := HS2.out.cell 2 (by omega)
    have k3 := HS2.out.cell 3 (by omega)
    have k4 := HS2.out.cell 4 (by omega)
    have k5 := HS2.out.cell 5 (by omega)
    have m0 := HS3.out.cell 0 (by omega)
    have m1 := HS3.out.cell 1 (by omega)
    have m2 := HS3.out.cell 2 (by omega)
    have m3 := HS3.out.cell 3 (by omega)
    have m4 := HS3.out.cell 4 (by omega)
    have m5 := HS3.out.cell 5 (by omega)
    go_wp2
    refine bodyPost_ret (res_six rfl _ rfl (HS2.out.store fun _ => 0)) rfl ?_
    exact ⟨rfl, below_six HB2.out (by omega) fun _ => 0⟩
theorem depthCounts_both (xs : List ByteArray) (hl : xs.length ≤ 1048576) (ht : ∀ x ∈ xs, x.size ≤ 1048576) : ∃ (R0 : Nat → Int) (R1 : Bool),
    Hid (∀ W a b o c, ListIn W a b o xs → Calls Try.prog 45 #[.agg #[.slice a xs.length c]] W fun e W' => e = .returned (.tuple #[.agg (six R0), .bool R1]) ∧ Below W.heap.size W W') ∧
    Hid (∀ W a b o c, ListIn W a b o xs → Calls Try.prog 46 #[.agg #[.slice a xs.length c]] W fun e W' => e = .returned (.tuple #[.agg (six R0), .bool R1]) ∧ Below W.heap.size W W') :=
  ⟨_, _, fun W a b o c h => sDepthCounts_any a b o c xs W h, fun W a b o c h => depthCountsT_any a b o c xs W h⟩

/-! ### The law's own -/
set_option maxHeartbeats 2000000 in
theorem eqA6_yes (f : Nat → Int) (w : World) :
    Calls Try.prog 47 #[.agg (six f), .agg (six f)] w fun e w' => e = .returned (.bool true) ∧ Below w.heap.size w w' := by
  have hT1 := (six_new w f).below (below_alloc _ (.cells (six f) 49))
  have hT2 := six_two w (.cells (six f) 49) f
  have hb0 := (below_alloc w (.cells (six f) 49)).alloc (by simp) (.cells (six f) 49)
  go_enter Try.func47, Try.ntmps47
  go_wp2
  generalize ((w.alloc (.cells (six f) 49)).alloc (.cells (six f) 49)) = W0 at hT1 hT2 hb0 ⊢
  have HB0 := Lib.hid hb0
  have H1 := Lib.hid hT1
  have H2 := Lib.hid hT2
  clear hb0 hT1 hT2
  go_loopw [5] (fun v wr => ∃ k q : Nat, v = .int .i64 k ∧ k ≤ 6 ∧ wr = W0.drewN q) (fun v _ => 6 - (intOf v).toNat)
  case atStart => exact ⟨0, 0, rfl, by omega, rfl⟩
  case round =>
    obtain ⟨k, q, rfl, hk, rfl⟩ := hrel
    by_cases hlt : k < 6
    · have d1 : W0.cell? ⟨w.heap.size, k, none⟩ = some (.int .i64 (f k)) := H1.out.cell k hlt
      have d2 : W0.cell? ⟨w.heap.size + 1, k, none⟩ = some (.int .i64 (f k)) := H2.out.cell k hlt
      generalize f k = z at d1 d2
      have i0 : (0 : Int) ≤ (k : Int) := by omega
      have i1 : (k : Int) < 6 := by omega
      go_wp2
      go_quiet (fail)
      go_wp2
      go_roundw
      case rel => exact ⟨k + 1, _, by go_num, by omega, rfl⟩
      case measure => simp [intOf]; omega
    · go_wp2
      go_ret
      exact ⟨rfl, ⟨HB0.out.os, HB0.out.tape, HB0.out.output, HB0.out.size, HB0.out.block⟩⟩
end Go.Proofs.Ytdphjnbelggcfaa
