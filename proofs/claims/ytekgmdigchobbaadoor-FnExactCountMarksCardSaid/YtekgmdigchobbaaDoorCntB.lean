/-
  CountMarks, the program's and the model's: both answer alike. Used by the claims on chapter 2.
-/
import Derived.Test.YtekgmdigchobbaaDoorBareC
namespace Go.Proofs.YtekgmdigchobbaaDoor
open Go.RowKit
set_option linter.unusedVariables false

/-- Two numbers in a block. -/
def Two (w : World) (g : Nat) (x y : Int) : Prop := w.heap[g]? = some (.cells #[.int .i64 x, .int .i64 y] 35 (0, 0))
theorem Two.cell0 {w : World} {g : Nat} {x y : Int} (h : Two w g x y) : w.cell? ⟨g, 0, none⟩ = some (.int .i64 x) := by
  unfold World.cell?; unfold Two at h; simp [h]
theorem Two.cell1 {w : World} {g : Nat} {x y : Int} (h : Two w g x y) : w.cell? ⟨g, 1, none⟩ = some (.int .i64 y) := by
  unfold World.cell?; unfold Two at h; simp [h]
theorem Two.frozen {w : World} {g : Nat} {x y : Int} (h : Two w g x y) (j : Nat) : w.frozen? ⟨g, j, none⟩ = false := by
  unfold World.frozen?; unfold Two at h; simp [h]
theorem Two.set0 {w : World} {g : Nat} {x y : Int} (h : Two w g x y) (u : Int) : Two (w.setCell ⟨g, 0, none⟩ (.int .i64 u)) g u y := by
  unfold Two at h ⊢; simp [World.setCell, Array.getElem?_modify, h]
theorem Two.set1 {w : World} {g : Nat} {x y : Int} (h : Two w g x y) (u : Int) : Two (w.setCell ⟨g, 1, none⟩ (.int .i64 u)) g x u := by
  unfold Two at h ⊢; simp [World.setCell, Array.getElem?_modify, h]
theorem two_size : (Tryd.prog.info? 35).map (·.size) = some 2 := by kernel_rfl
theorem load_two {w : World} {g : Nat} {x y : Int} (h : Two w g x y) : (loadVar 35 ⟨g, 0, none⟩).run Tryd.prog w = .ok (.agg #[.int .i64 x, .int .i64 y]) w :=
  run_loadVar_row w g 35 35 #[.int .i64 x, .int .i64 y] (0, 0) _ h Tryd.underlying35 rfl two_size
theorem res_two {fn : Func} {p u : Tmp} (h : fn.results = #[.cell p 35, .tmp u]) (tmps : Array Value) {w : World} {g : Nat} {x y : Int} (hp : tmps.getD p undef = .pointer (some ⟨g, 0, none⟩)) (hb : Two w g x y) : (results fn tmps).run Tryd.prog w = .ok (.tuple #[.agg #[.int .i64 x, .int .i64 y], tmps.getD u undef]) w := by
  rw [results_cell_tmp h, hp]
  simp [asAddr, load_two hb, Result.andThen]
def cntR (xs : List ByteArray) (m : ByteArray) : (Int × Int) × Bool := if validM xs m = true then (((((bareL (xs.map bl) (bl m)).count 46 : Nat) : Int), (((bareL (xs.map bl) (bl m)).count 45 : Nat) : Int)), true) else ((0, 0), false)

set_option maxHeartbeats 4000000 in
set_option maxRecDepth 8000 in
theorem countM_any (a : Option Addr) (b o c : Nat) (xs : List ByteArray) (m : ByteArray) (w : World) (h : ListIn w a b o xs) (hm : m.size ≤ 1048576) (hM : MaxIs w) :
    Calls Tryd.prog 16 #[.agg #[.slice a xs.length c], .string m] w fun e w' => e = .returned (.tuple #[.agg #[.int .i64 (cntR xs m).1.1, .int .i64 (cntR xs m).1.2], .bool (cntR xs m).2]) ∧ Below w.heap.size w w' := by
  have hl := h.len
  have F := Lib.hid fun W (hb : Below w.heap.size w W) => encode_any a b o c xs m W (h.below hb) hm (hM.below hb)
  clear h hM
  by_cases hv : validM xs m = true
  · have F2 := Lib.hid fun W hb => val_eq (v' := .tuple #[.string (ba (encL (xs.map bl) (bl m))), .bool true]) (F.out W hb) (by rw [show encR xs m = _ from if_pos hv])
    have hv2 := validM_iff.1 hv
    have hm2 : msgL (xs.map bl).length (bl m) = true := by rw [List.length_map]; exact hv2.2
    have C1 := Lib.hid fun W => Tryd.strings_Count_one (ba (encL (xs.map bl) (bl m))) 46 W
    have C2 := Lib.hid fun W => Tryd.strings_Count_one (ba (encL (xs.map bl) (bl m))) 45 W
    have HR : Hid (cntR xs m = ((((Lib.countByte (ba (encL (xs.map bl) (bl m))).data.toList 46 : Nat) : Int), ((Lib.countByte (ba (encL (xs.map bl) (bl m))).data.toList 45 : Nat) : Int)), true)) := Lib.hid (by
      have e1 : (ba (encL (xs.map bl) (bl m))).data.toList = encL (xs.map bl) (bl m) := bl_ba _
      rw [e1]
      unfold Lib.countByte
      rw [← count_bare hv2.1 hm2 (b := 46) (by decide), ← count_bare hv2.1 hm2 (b := 45) (by decide)]
      exact if_pos hv)
    generalize ba (encL (xs.map bl) (bl m)) = y at F2 HR C1 C2
    clear F hv hv2 hm2
    go_enter Tryd.func16, Tryd.ntmps16
    go_wp2_with fail
    refine (F2.out _ ((below_alloc _ _).alloc (by simp) _)).mono ?_
    rintro e w1 ⟨rfl, hb⟩
    have h0 : ((w.alloc (.cells #[.slice a xs.length c] 26)).alloc (.cells #[.int .i64 0, .int .i64 0] 35)).heap[w.heap.size + 1]? = some (.cells #[.int .i64 0, .int .i64 0] 35 (0, 0)) := by
      have := heap_alloc_new (w.alloc (.cells #[.slice a xs.length c] 26)) (.cells #[.int .i64 0, .int .i64 0] 35)
      simpa using this
    have hT : Two w1 (w.heap.size + 1) 0 0 := (hb.block (w.heap.size + 1) (by simp)).trans h0
    have d1 := hT.cell0
    have d2 := hT.cell1
    have d3 := hT.frozen 0
    have d4 := hT.frozen 1
    have HB := Lib.hid (((below_alloc w (.cells #[.slice a xs.length c] 26)).alloc (by simp) (.cells #[.int .i64 0, .int .i64 0] 35)).trans (hb.mono (by simp; omega)))
    clear hb h0
    go_wp2_with fail
    refine (C1.out _).mono ?_
    rintro e w2 ⟨rfl, hww⟩
    obtain rfl := hww.symm
    go_wp2_with fail
    refine (C2.out _).mono ?_
    rintro e w3 ⟨rfl, hww⟩
    obtain rfl := hww.symm
    go_wp2
    refine bodyPost_ret (res_two rfl _ rfl ((hT.set0 _).set1 _)) rfl ?_
    exact ⟨by rw [HR.out]; rfl, (HB.out.setCell (p := ⟨w.heap.size + 1, 0, none⟩) (by simp) _).setCell (p := ⟨w.heap.size + 1, 1, none⟩) (by simp) _⟩
  · have F2 := Lib.hid fun W hb => val_eq (v' := .tuple #[.string ⟨#[]⟩, .bool false]) (F.out W hb) (by rw [show encR xs m = _ from if_neg hv])
    have HR : Hid (cntR xs m = ((0, 0), false)) := Lib.hid (if_neg hv)
    clear F hv
    go_enter Tryd.func16, Tryd.ntmps16
    go_wp2_with fail
    refine (F2.out _ ((below_alloc _ _).alloc (by simp) _)).mono ?_
    rintro e w1 ⟨rfl, hb⟩
    have h0 : ((w.alloc (.cells #[.slice a xs.length c] 26)).alloc (.cells #[.int .i64 0, .int .i64 0] 35)).heap[w.heap.size + 1]? = some (.cells #[.int .i64 0, .int .i64 0] 35 (0, 0)) := by
      have := heap_alloc_new (w.alloc (.cells #[.slice a xs.length c] 26)) (.cells #[.int .i64 0, .int .i64 0] 35)
      simpa using this
    have hT : Two w1 (w.heap.size + 1) 0 0 := (hb.block (w.heap.size + 1) (by simp)).trans h0
    have d1 := hT.cell0
    have d2 := hT.cell1
    have d3 := hT.frozen 0
    have d4 := hT.frozen 1
    have HB := Lib.hid (((below_alloc w (.cells #[.slice a xs.length c] 26)).alloc (by simp) (.cells #[.int .i64 0, .int .i64 0] 35)).trans (hb.mono (by simp; omega)))
    clear hb h0
    go_wp2
    refine bodyPost_ret (res_two rfl _ rfl ((hT.set0 _).set1 _)) rfl ?_
    exact ⟨by rw [HR.out]; rfl, (HB.out.setCell (p := ⟨w.heap.size + 1, 0, none⟩) (by simp) _).setCell (p := ⟨w.heap.size + 1, 1, none⟩) (by simp) _⟩

/-! ### The model's -/
theorem Two.below {w w' : World} {g : Nat} {x y : Int} (h : Two w g x y) (hb : Below w.heap.size w w') : Two w' g x y := (hb.block g (Array.getElem?_eq_some_iff.1 h).1).trans h
theorem Two.other {w : World} {g : Nat} {x y : Int} (h : Two w g x y) {p : Addr} (hp : p.block ≠ g) (v : Value) : Two (w.setCell p v) g x y := by
  unfold Two at h ⊢
  simp [World.setCell, Array.getElem?_modify, hp, h]

theorem two_new (w : World) (x y : Int) : Two (w.alloc (.cells #[.int .i64 x, .int .i64 y] 35)) w.heap.size x y := heap_alloc_new _ _
theorem two_first (w : World) (o : Obj) : Two (((w.alloc o).alloc (.cells #[.int .i64 0, .int .i64 0] 35)).alloc (.cells #[.int .i64 0, .int .i64 0] 35)) (w.heap.size + 1) 0 0 := by
  have h := (two_new (w.alloc o) 0 0).below (below_alloc _ (.cells #[.int .i64 0, .int .i64 0] 35))
  have e : (w.alloc o).heap.size = w.heap.size + 1 := by simp
  rw [e] at h; exact h
theorem two_second (w : World) (o : Obj) : Two (((w.alloc o).alloc (.cells #[.int .i64 0, .int .i64 0] 35)).alloc (.cells #[.int .i64 0, .int .i64 0] 35)) (w.heap.size + 1 + 1) 0 0 := by
  have h := two_new ((w.alloc o).alloc (.cells #[.int .i64 0, .int .i64 0] 35)) 0 0
  have e : ((w.alloc o).alloc (.cells #[.int .i64 0, .int .i64 0] 35)).heap.size = w.heap.size + 1 + 1 := by simp
  rw [e] at h; exact h
set_option maxHeartbeats 4000000 in
set_option maxRecDepth 8000 in
theorem sCountM_any (a : Option Addr) (b o c : Nat) (xs : List ByteArray) (m : ByteArray) (w : World) (h : ListIn w a b o xs) (hm : m.size ≤ 1048576) :
    Calls Tryd.prog 17 #[.agg #[.slice a xs.length c], .string m] w fun e w' => e = .returned (.tuple #[.agg #[.int .i64 (cntR xs m).1.1, .int .i64 (cntR xs m).1.2], .bool (cntR xs m).2]) ∧ Below w.heap.size w w' := by
  have hl := h.len
  have F := Lib.hid fun W hb => stable_any a b o c xs W (h.below (w' := W) hb)
  have HS := Lib.hid h
  clear h
  by_cases ht : tableB xs = true
  · have F2 := Lib.hid fun W hb => val_eq (v' := .bool true) (F.out W hb) (by rw [ht])
    have hn := ((tableB_iff xs).1 ht).1
    have G := Lib.hid fun W => sMsg_any a b o c xs m W hn.1 hn.2 (by unfold maxLen; omega)
    by_cases hv : msgL xs.length (bl m) = true
    · have G2 := Lib.hid fun W => val_eq (v' := .bool true) (G.out W) (by rw [hv])
      have E := Lib.hid fun W hb => sBareV_any a b o c xs m W (HS.out.below (w' := W) hb) ht hv
      have HMk : Hid (∀ u ∈ bl (ba (bareL (xs.map bl) (bl m))), isMk u = true) := Lib.hid (by rw [bl_ba]; exact bare_marks ht (by rw [List.length_map]; exact hv))
      have HR : Hid (cntR xs m = ((((((bl (ba (bareL (xs.map bl) (bl m)))).count 46 : Nat) : Int), (((bl (ba (bareL (xs.map bl) (bl m)))).count 45 : Nat) : Int))), true)) := Lib.hid (by rw [bl_ba]; exact if_pos (validM_iff.2 ⟨ht, hv⟩))
      have hsz : (ba (bareL (xs.map bl) (bl m))).size ≤ 200 := by
        have h1 := msgGo_len hv
        have h2 := bareL_le (xs := xs) (fun x hx => by
          have := ((tableB_iff xs).1 ht).2.1 x hx
          simp only [marksL, Bool.and_eq_true, decide_eq_true_eq, bl_len] at this
          exact this.1.2) (bl m) (msg_sign hv)
        rw [ba_size]; omega
      generalize ba (bareL (xs.map bl) (bl m)) = y at E HR HMk hsz
      clear ht hn F G hv
      go_enter Tryd.func17, Tryd.ntmps17
      go_wp2_with fail
      refine (F2.out _ (((below_alloc _ _).alloc (by simp) _).alloc (by simp; omega) _)).mono ?_
      rintro e w1 ⟨rfl, hb⟩
      have hT1 : Two w1 (w.heap.size + 1) 0 0 := (hb.block (w.heap.size + 1) (by simp)).trans (two_first w _)
      have hT2 : Two w1 (w.heap.size + 1 + 1) 0 0 := (hb.block (w.heap.size + 1 + 1) (by simp)).trans (two_second w _)
      have hc1 : w1.cell? ⟨w.heap.size, 0, none⟩ = some (.slice a xs.length c) := (hb.cell (p := ⟨w.heap.size, 0, none⟩) (by simp; omega)).trans (keep_cell _ _ (keep_cell _ _ (cell_new _ _ _)))
      have HB := Lib.hid ((((below_alloc w (.cells #[.slice a xs.length c] 26)).alloc (by simp) (.cells #[.int .i64 0, .int .i64 0] 35)).alloc (by simp; omega) (.cells #[.int .i64 0, .int .i64 0] 35)).trans (hb.mono (by simp; omega)))
      clear hb
      go_wp2_with fail
      refine (G2.out _).mono ?_
      rintro e w2 ⟨rfl, hb⟩
      have hc2 := (hb.cell (World.block_lt_of_cell? _ _ hc1)).trans hc1
      have hT1 : Two w2 (w.heap.size + 1) 0 0 := (hb.block (w.heap.size + 1) (Array.getElem?_eq_some_iff.1 hT1).1).trans hT1
      have hT2 : Two w2 (w.heap.size + 1 + 1) 0 0 := (hb.block (w.heap.size + 1 + 1) (Array.getElem?_eq_some_iff.1 hT2).1).trans hT2
      have HB2 := Lib.hid (HB.out.trans (hb.mono HB.out.size))
      clear hb hc1
      go_wp2_with fail
      refine (E.out _ HB2.out).mono ?_
      rintro e w3 ⟨rfl, hb⟩
      have hT1 := hT1.below hb
      have hT2 := hT2.below hb
      have HB3 := Lib.hid (HB2.out.trans (hb.mono HB2.out.size))
      clear hb hc2
      go_wp2
      go_loopw [8] (fun v wr => ∃ k : Nat, v = .int .i64 k ∧ k ≤ y.size ∧ Two wr (w.heap.size + 1) 0 0 ∧ Two wr (w.heap.size + 1 + 1) (((bl y).take k).count 46 : Nat) (((bl y).take k).count 45 : Nat) ∧ Hid (Below w.heap.size w wr)) (fun v _ => y.size - (intOf v).toNat)
      case atStart => exact ⟨0, rfl, Nat.zero_le _, hT1, hT2, HB3⟩
      case round =>
        obtain ⟨k, rfl, hk, hU1, hU2, HB4⟩ := hrel
        by_cases hlt : k < y.size
        · have i0 : (0 : Int) ≤ (k : Int) := by omega
          have i1 : (k : Int) < (y.size : Int) := by omega
          have hby := bl_at y k hlt
          have hmk := HMk.out _ (List.mem_of_getElem? hby)
          have d6 := hU2.cell0
          have d7 := hU2.cell1
          have d8 := hU2.frozen 0
          have d9 := hU2.frozen 1
          have b1 : ((bl y).take k).count 46 ≤ 200 := by have := List.count_le_length (a := (46 : UInt8)) (l := (bl y).take k); rw [List.length_take, bl_len] at this; omega
          have b2 : ((bl y).take k).count 45 ≤ 200 := by have := List.count_le_length (a := (45 : UInt8)) (l := (bl y).take k); rw [List.length_take, bl_len] at this; omega
          have HT46 : Hid (((bl y).take (k + 1)).count 46 = ((bl y).take k).count 46 + (if y[k] = 46 then 1 else 0)) := Lib.hid (by
            rw [List.take_add_one, hby, List.count_append]; simp [List.count_cons])
          have HT45 : Hid (((bl y).take (k + 1)).count 45 = ((bl y).take k).count 45 + (if y[k] = 45 then 1 else 0)) := Lib.hid (by
            rw [List.take_add_one, hby, List.count_append]; simp [List.count_cons])
          by_cases hc : y[k] = 46
          · have e1 : ((y[k].toNat : Int) == 46) = true := by rw [hc]; rfl
            have HU := Lib.hid (hU2.set0 ((((bl y).take k).count 46 : Nat) + 1 : Int))
            have hU3 := hU1.other (p := ⟨w.heap.size + 1 + 1, 0, none⟩) (by simp) (.int .i64 ((((bl y).take k).count 46 : Nat) + 1 : Int))
            rw [if_pos hc] at HT46
            rw [if_neg (by rw [hc]; decide)] at HT45
            have HB5 := Lib.hid (HB4.out.setCell (p := ⟨w.heap.size + 1 + 1, 0, none⟩) (by simp; omega) (.int .i64 ((((bl y).take k).count 46 : Nat) + 1 : Int)))
            generalize ((bl y).take k).count 46 = n1 at *
            generalize ((bl y).take k).count 45 = n2 at *
            clear hc hby hmk hT1 hT2 hU1
            go_wp2
            go_roundw
            case rel => exact ⟨k + 1, by go_num, by omega, hU3, by rw [HT46.out, HT45.out]; exact HU.out, HB5⟩
            case measure => simp [intOf]; omega
          · have e1 : ((y[k].toNat : Int) == 46) = false := beq_false_of_ne (fun e => hc (u8_eq (k := 46) (by omega) (by decide)))
            have h45 : y[k] = 45 := by
              simp only [isMk, Bool.or_eq_true, beq_iff_eq] at hmk
              exact hmk.resolve_left hc
            have HU := Lib.hid (hU2.set1 ((((bl y).take k).count 45 : Nat) + 1 : Int))
            have hU3 := hU1.other (p := ⟨w.heap.size + 1 + 1, 1, none⟩) (by simp) (.int .i64 ((((bl y).take k).count 45 : Nat) + 1 : Int))
            rw [if_neg hc] at HT46
            rw [if_pos h45] at HT45
            have HB5 := Lib.hid (HB4.out.setCell (p := ⟨w.heap.size + 1 + 1, 1, none⟩) (by simp; omega) (.int .i64 ((((bl y).take k).count 45 : Nat) + 1 : Int)))
            generalize ((bl y).take k).count 46 = n1 at *
            generalize ((bl y).take k).count 45 = n2 at *
            clear hc hby hmk hT1 hT2 hU1 h45
            go_wp2
            go_roundw
            case rel => exact ⟨k + 1, by go_num, by omega, hU3, by rw [HT46.out, HT45.out]; exact HU.out, HB5⟩
            case measure => simp [intOf]; omega
        · have hE : (bl y).take k = bl y := List.take_of_length_le (by rw [bl_len]; omega)
          rw [hE] at hU2
          clear hT1 hT2
          have d1 := hU1.cell0
          have d2 := hU1.cell1
          have d3 := hU1.frozen 0
          have d4 := hU1.frozen 1
          have d5 := load_two hU2
          have d6 := hU2.cell0
          have d7 := hU2.cell1
          go_wp2
          refine bodyPost_ret (res_two rfl _ rfl ((hU1.set0 _).set1 _)) rfl ?_
          exact ⟨by rw [HR.out]; rfl, (HB4.out.setCell (p := ⟨w.heap.size + 1, 0, none⟩) (by simp) _).setCell (p := ⟨w.heap.size + 1, 1, none⟩) (by simp) _⟩
    · have G2 := Lib.hid fun W => val_eq (v' := .bool false) (G.out W) (by simp [hv])
      have HR : Hid (cntR xs m = ((0, 0), false)) := Lib.hid (if_neg (fun h => hv (validM_iff.1 h).2))
      clear ht hn F G hv
      go_enter Tryd.func17, Tryd.ntmps17
      go_wp2_with fail
      refine (F2.out _ (((below_alloc _ _).alloc (by simp) _).alloc (by simp; omega) _)).mono ?_
      rintro e w1 ⟨rfl, hb⟩
      have hT1 : Two w1 (w.heap.size + 1) 0 0 := (hb.block (w.heap.size + 1) (by simp)).trans (two_first w _)
      have hT2 : Two w1 (w.heap.size + 1 + 1) 0 0 := (hb.block (w.heap.size + 1 + 1) (by simp)).trans (two_second w _)
      have hc1 : w1.cell? ⟨w.heap.size, 0, none⟩ = some (.slice a xs.length c) := (hb.cell (p := ⟨w.heap.size, 0, none⟩) (by simp; omega)).trans (keep_cell _ _ (keep_cell _ _ (cell_new _ _ _)))
      have HB := Lib.hid ((((below_alloc w (.cells #[.slice a xs.length c] 26)).alloc (by simp) (.cells #[.int .i64 0, .int .i64 0] 35)).alloc (by simp; omega) (.cells #[.int .i64 0, .int .i64 0] 35)).trans (hb.mono (by simp; omega)))
      clear hb
      go_wp2_with fail
      refine (G2.out _).mono ?_
      rintro e w2 ⟨rfl, hb⟩
      have hc2 := (hb.cell (World.block_lt_of_cell? _ _ hc1)).trans hc1
      have hT1 : Two w2 (w.heap.size + 1) 0 0 := (hb.block (w.heap.size + 1) (Array.getElem?_eq_some_iff.1 hT1).1).trans hT1
      have hT2 : Two w2 (w.heap.size + 1 + 1) 0 0 := (hb.block (w.heap.size + 1 + 1) (Array.getElem?_eq_some_iff.1 hT2).1).trans hT2
      have HB2 := Lib.hid (HB.out.trans (hb.mono HB.out.size))
      clear hb hc1
      have d1 := hT1.cell0
      have d2 := hT1.cell1
      have d3 := hT1.frozen 0
      have d4 := hT1.frozen 1
      have d5 := load_two hT2
      have d6 := hT2.cell0
      have d7 := hT2.cell1
      go_wp2
      refine bodyPost_ret (res_two rfl _ rfl ((hT1.set0 _).set1 _)) rfl ?_
      exact ⟨by rw [HR.out]; rfl, (HB2.out.setCell (p := ⟨w.heap.size + 1, 0, none⟩) (by simp) _).setCell (p := ⟨w.heap.size + 1, 1, none⟩) (by simp) _⟩
  · have F2 := Lib.hid fun W hb => val_eq (v' := .bool false) (F.out W hb) (by simp [ht])
    have HR : Hid (cntR xs m = ((0, 0), false)) := Lib.hid (if_neg (fun h => ht (validM_iff.1 h).1))
    clear ht F
    go_enter Tryd.func17, Tryd.ntmps17
    go_wp2_with fail
    refine (F2.out _ (((below_alloc _ _).alloc (by simp) _).alloc (by simp; omega) _)).mono ?_
    rintro e w1 ⟨rfl, hb⟩
    have hT1 : Two w1 (w.heap.size + 1) 0 0 := (hb.block (w.heap.size + 1) (by simp)).trans (two_first w _)
    have hT2 : Two w1 (w.heap.size + 1 + 1) 0 0 := (hb.block (w.heap.size + 1 + 1) (by simp)).trans (two_second w _)
    have hc1 : w1.cell? ⟨w.heap.size, 0, none⟩ = some (.slice a xs.length c) := (hb.cell (p := ⟨w.heap.size, 0, none⟩) (by simp; omega)).trans (keep_cell _ _ (keep_cell _ _ (cell_new _ _ _)))
    have HB := Lib.hid ((((below_alloc w (.cells #[.slice a xs.length c] 26)).alloc (by simp) (.cells #[.int .i64 0, .int .i64 0] 35)).alloc (by simp; omega) (.cells #[.int .i64 0, .int .i64 0] 35)).trans (hb.mono (by simp; omega)))
    clear hb
    have d1 := hT1.cell0
    have d2 := hT1.cell1
    have d3 := hT1.frozen 0
    have d4 := hT1.frozen 1
    have d5 := load_two hT2
    have d6 := hT2.cell0
    have d7 := hT2.cell1
    go_wp2
    refine bodyPost_ret (res_two rfl _ rfl ((hT1.set0 _).set1 _)) rfl ?_
    exact ⟨by rw [HR.out]; rfl, (HB.out.setCell (p := ⟨w.heap.size + 1, 0, none⟩) (by simp) _).setCell (p := ⟨w.heap.size + 1, 1, none⟩) (by simp) _⟩

theorem countMarks_both (xs : List ByteArray) (m : ByteArray) (hl : xs.length ≤ 1048576) (ht : ∀ x ∈ xs, x.size ≤ 1048576) (hm : m.size ≤ 1048576) : ∃ (R0 R2 : Int) (R1 : Bool),
    Hid (∀ W a b o c, ListIn W a b o xs → Calls Tryd.prog 17 #[.agg #[.slice a xs.length c], .string m] W fun e W' => e = .returned (.tuple #[.agg #[.int .i64 R0, .int .i64 R2], .bool R1]) ∧ Below W.heap.size W W') ∧
    Hid (∀ W a b o c, ListIn W a b o xs → MaxIs W → Calls Tryd.prog 16 #[.agg #[.slice a xs.length c], .string m] W fun e W' => e = .returned (.tuple #[.agg #[.int .i64 R0, .int .i64 R2], .bool R1]) ∧ Below W.heap.size W W') :=
  ⟨_, _, _, fun W a b o c h => sCountM_any a b o c xs m W h hm, fun W a b o c h h2 => countM_any a b o c xs m W h hm h2⟩
end Go.Proofs.YtekgmdigchobbaaDoor
