/-
  SwapsToBest of the program: a goto goes back to the search behind each swap. Used by the claims on chapter 8.
-/
import Derived.Test.YtfnklfpcmgjfjaaSwtL
import Derived.Test.YtfnklfpcmgjfjaaSwpS
import Derived.Test.YtfnklfpcmgjfjaaListW
import Derived.Laws.CopyOwn
import Derived.ScopeJumps
import Derived.WalkMore
namespace Go.Proofs.Ytfnklfpcmgjfjaa
open Go.RowKit
set_option linter.unusedVariables false

/-- A row of texts of the call's own. -/
structure RowT (wr : World) (B n : Nat) (ys : List ByteArray) : Prop where
  row : wr.rowIs B 9 n (fun k => .string (ys.getD k ⟨#[]⟩))
  len : ys.length = n
theorem RowT.src {wr : World} {B n : Nat} {ys : List ByteArray} (h : RowT wr B n ys) : Src wr (some ⟨B, 0, none⟩) B 0 ys :=
  ⟨fun _ => rfl, fun j x hx => by
    have hj : j < ys.length := (List.getElem?_eq_some_iff.1 hx).1
    have := h.row.cell (i := j) (by rw [← h.len]; exact hj)
    rw [List.getD_eq_getElem?_getD, hx] at this
    rw [Nat.zero_add]; exact this⟩
theorem RowT.below {w w' : World} {B n : Nat} {ys : List ByteArray} (h : RowT w B n ys) (hb : Below w.heap.size w w') : RowT w' B n ys := ⟨h.row.of_block (hb.block B h.row.lt), h.len⟩
theorem RowT.sw {wr : World} {B n i j : Nat} {ys : List ByteArray} (h : RowT wr B n ys) (hi : i < n) (hj : j < n) :
    RowT ((wr.setCell ⟨B, i, none⟩ (.string (ys.getD j ⟨#[]⟩))).setCell ⟨B, j, none⟩ (.string (ys.getD i ⟨#[]⟩))) B n (sw2 ys i j) :=
  ⟨((h.row.set i _).set j _).congr fun k hk => by
    have hl := h.len
    rw [sw2_at (by omega) (by omega) (by omega)]
    by_cases e1 : k = j
    · rw [if_pos e1, if_pos e1]
    · rw [if_neg e1, if_neg e1]
      by_cases e2 : k = i
      · rw [if_pos e2, if_pos e2]
      · rw [if_neg e2, if_neg e2], by rw [sw2_len]; exact h.len⟩
theorem rowT_of_cells {w : World} {B : Nat} {xs : List ByteArray} (h : w.heap[B]? = some (.cells (xs.map Value.string).toArray 9 (0, 0))) : RowT w B xs.length xs :=
  ⟨⟨_, h, by simp, fun i hi => by simp [List.getD_eq_getElem?_getD, hi]⟩, rfl⟩
/-- What holds at the search: so many swaps, and these marks. -/
structure SwJ (w wr : World) (B b o g1 : Nat) (xs : List ByteArray) (m : List Nat) (k f R : Nat) (ys : List ByteArray) : Prop where
  row : RowT wr B xs.length ys
  below : Below w.heap.size w wr
  mks : ∀ y ∈ ys, marksL (bl y) = true
  cost : cst (uAt m) (tAt ys) ys.length ≤ f
  cnt : k + swF (uAt m) f ys = R

set_option maxHeartbeats 8000000 in
set_option maxRecDepth 100000 in
theorem swapsYes_any (a : Option Addr) (b o c : Nat) (xs : List ByteArray) (a1 : Option Addr) (g1 c1 : Nat) (m : List Nat) (w : World) (h : ListIn w a b o xs) (hs : SrcV w a1 g1 (intz (zs m))) (ht : tableB xs = true) (hm : IsWt m) (hl : m.length = xs.length) (hf : fitB xs (zs m) = true) (R F0 : Nat) (hR : R = swF (uAt m) F0 xs) (hF : F0 = cst (uAt m) (tAt xs) xs.length) :
    Calls Try.prog 46 #[.agg #[.slice a xs.length c], .slice a1 xs.length c1] w fun e w' => e = .returned (.tuple #[.int .i64 (R : Nat), .bool true]) ∧ Below w.heap.size w w' := by
  have hn := ((tableB_iff xs).1 ht).1
  have hn10 := hn.2
  have hn1 := hn.1
  have hzl : (zs m).length = xs.length := by rw [zs_len]; exact hl
  have F := Lib.hid fun W hb => val_eq (v' := .bool true) (areWFor_any a b o c xs a1 g1 c1 (zs m) W (h.below (w' := W) hb) (hs.below hb) (by rw [zs_len]; omega)) (by rw [hf])
  rw [hzl] at F
  have HM := Lib.hid ((tableB_iff xs).1 ht).2.1
  have HF0 : F0 ≤ 20000 := by
    have := cst_le (u := uAt m) (t := tAt xs) xs.length (fun k _ => uAt_le hm k) (fun k hk => (tAt_le ht k hk).2)
    omega
  have HCo : Hid (cst (uAt m) (tAt xs) xs.length ≤ F0) := Lib.hid (by omega)
  have HR := Lib.hid hR
  have HS := Lib.hid h
  have G := Lib.hid fun (W : World) (B : Nat) (ys : List ByteArray) (hb : Below w.heap.size w W) (hy : RowT W B xs.length ys) (hmk : ∀ y ∈ ys, marksL (bl y) = true) => bestSwap_any (some ⟨B, 0, none⟩) B 0 xs.length ys a1 g1 c1 m W hy.src (hs.below hb) hmk hm (by rw [hy.len]; exact hl)
  have HK := Lib.hid (cell_new w (.slice a xs.length c) 29)
  have hmk := run_make_row' (P := Try.prog) 22 9 (.string ByteArray.empty) 16 Try.underlying22 infoStr rfl .i64 .i64 xs.length (by omega) (by omega)
  have HL := Lib.hid hl
  obtain rfl := h.src.1 (by omega)
  clear h hs ht hm hl hn hf hR hF hzl
  go_enter Try.func46, Try.ntmps46
  go_wp2
  refine wp_scope_jumps 0 (fun a' w' => ∃ B : Nat, w.heap.size ≤ B ∧ ∃ (k f : Nat) (ys : List ByteArray) (u3 u8 u9 u10 u11 u12 u13 u14 u15 u16 u17 u18 u19 u20 u21 u22 u23 u24 u25 u26 u27 u28 u29 u30 u31 u32 u33 u34 u35 u36 u37 u38 u39 u40 u41 u42 u43 u44 u45 u46 u47 u48 u49 u50 u51 u52 u53 : Value), a' = { tmps := #[.agg #[.slice (some ⟨b, o, none⟩) xs.length c], .slice a1 xs.length c1, .pointer (some ⟨w.heap.size, 0, none⟩), u3, .int .i64 0, .bool false, .slice (some ⟨B, 0, none⟩) xs.length xs.length, .int .i64 (k : Nat), u8, u9, u10, u11, u12, u13, u14, u15, u16, u17, u18, u19, u20, u21, u22, u23, u24, u25, u26, u27, u28, u29, u30, u31, u32, u33, u34, u35, u36, u37, u38, u39, u40, u41, u42, u43, u44, u45, u46, u47, u48, u49, u50, u51, u52, u53], defers := [] } ∧ k + f = F0 ∧ Hid (SwJ w w' B b o g1 xs m k f R ys)) (fun a' _ => F0 - (intOf (a'.tmps.getD 7 undef)).toNat) rfl ?_ ?_
  · go_wp2_with fail
    refine (F.out _ (below_alloc _ _)).mono ?_
    rintro e w1 ⟨rfl, hb⟩
    have HB := Lib.hid ((below_alloc w (.cells #[.slice (some ⟨b, o, none⟩) xs.length c] 29)).trans (hb.mono (by simp)))
    have hc := (hb.cell (p := ⟨w.heap.size, 0, none⟩) (by simp)).trans HK.out
    have hlt1 : w.heap.size < w1.heap.size := Nat.lt_of_lt_of_le (by simp) hb.size
    clear hb
    have hcm : (w1.alloc (.cells (madeCells #[.string ByteArray.empty] xs.length) 9)).cell? ⟨w.heap.size, 0, none⟩ = some (.slice (some ⟨b, o, none⟩) xs.length c) := keep_cell _ _ hc
    have HBm : Hid (Below w.heap.size w (w1.alloc (.cells (madeCells #[.string ByteArray.empty] xs.length) 9))) := Lib.hid (HB.out.alloc HB.out.size _)
    have HG0 : Hid ((w1.alloc (.cells (madeCells #[.string ByteArray.empty] xs.length) 9)).heap[w1.heap.size]? = some (.cells ((madeCells #[.string ByteArray.empty] xs.length).toList.toArray) 9 (0, 0))) := Lib.hid (by rw [heap_alloc_new])
    have HSr : Hid (∀ (j : Nat) v, (xs.map Value.string)[j]? = some v → (w1.alloc (.cells (madeCells #[.string ByteArray.empty] xs.length) 9)).cell? ((⟨b, o, none⟩ : Addr).add j) = some v) := Lib.hid fun j v hv => by
      rw [List.getElem?_map] at hv
      cases hx : xs[j]? with
      | none => rw [hx] at hv; cases hv
      | some x =>
        rw [hx] at hv
        cases hv
        rw [Addr.add_lit]
        exact (HS.out.below HBm.out).src.2 j x hx
    have HMl : Hid ((madeCells #[Value.string ByteArray.empty] xs.length).toList.length = xs.length) := Lib.hid (by simp [size_madeCells])
    have hsz1 : w.heap.size ≤ w1.heap.size := HB.out.size
    have HMn : Hid ((xs.map Value.string).length = Nat.min xs.length xs.length) := Lib.hid (by rw [List.length_map]; exact (Nat.min_self _).symm)
    have HMp : Hid (0 < (xs.map Value.string).length → (some (⟨w1.heap.size, 0, none⟩ : Addr) = some ⟨w1.heap.size, 0, none⟩) ∧ ∃ ad : Addr, (some (⟨b, o, none⟩ : Addr) = some ad) ∧ ∀ j v, (xs.map Value.string)[j]? = some v → (w1.alloc (.cells (madeCells #[.string ByteArray.empty] xs.length) 9)).cell? (ad.add j) = some v) := Lib.hid fun _ => ⟨rfl, _, rfl, HSr.out⟩
    have HMf : Hid (0 + (xs.map Value.string).length ≤ (madeCells #[Value.string ByteArray.empty] xs.length).toList.length) := Lib.hid (by rw [HMl.out]; simp)
    have HMo : Hid (∀ v ∈ xs.map Value.string, v.oneCell' = true) := Lib.hid (by intro v hv; obtain ⟨s, _, rfl⟩ := List.mem_map.1 hv; rfl)
    have HMs : Hid ((Try.prog.info? 9).map (·.size) = some 1) := Lib.hid (by kernel_rfl)
    go_wp2_with (refine wpList_copy_splice rfl (.tmp 21) (.tmp 23) 22 22 rfl 9 Try.underlying22 HMs.out (some ⟨w1.heap.size, 0, none⟩) (some ⟨b, o, none⟩) xs.length xs.length xs.length c rfl rfl w1.heap.size 0 _ 9 HG0.out (xs.map Value.string) HMn.out (fun _ => ⟨rfl, _, rfl, HSr.out⟩) HMf.out HMo.out w.heap.size w HBm.out hsz1 ?_; intro w2 hg2 hb2)
    have HJ0 : Hid (SwJ w w2 w1.heap.size b o g1 xs m 0 F0 R xs) := Lib.hid ⟨rowT_of_cells (by
        have := hg2.out
        have e : splice (madeCells #[Value.string ByteArray.empty] xs.length).toList 0 (xs.map Value.string) = xs.map Value.string := by
          unfold splice
          rw [List.take_zero, List.nil_append, List.drop_of_length_le (by rw [HMl.out]; simp), List.append_nil]
        rw [e] at this
        exact this), hb2, HM.out, HCo.out, by rw [HR.out, Nat.zero_add]⟩
    clear hg2 hb2 hmk hc hcm HG0 HSr HMl HBm HMn HMp HMf HMo HMs
    obtain ⟨B, hB⟩ : ∃ B, B = w1.heap.size := ⟨_, rfl⟩
    rw [← hB] at HJ0 hsz1 ⊢
    clear hB hlt1
    go_wp2
    go_step3
    obtain ⟨ys, HJ⟩ : ∃ ys, Hid (SwJ w w2 B b o g1 xs m 0 F0 R ys) := ⟨xs, HJ0⟩
    clear HJ0
    have hB := hsz1
    have HJx := trivial
    have hkf : 0 + F0 = F0 := Nat.zero_add _
    have hyl := HJ.out.row.len
    have hysp : 0 < ys.length := by omega
    obtain ⟨ri, rj, rz, hR2⟩ : ∃ ri rj rz, swR (uAt m) (tAt ys) ys.length = ((ri, rj), rz) := ⟨_, _, _, rfl⟩
    have HG := Lib.hid (G.out w2 B ys HJ.out.below HJ.out.row HJ.out.mks)
    rw [hR2] at HG
    rw [HL.out, hyl] at HG
    by_cases hz : rz = 0
    · have HE : Hid (R = 0) := Lib.hid (by
        have := HJ.out.cnt
        rw [swF_end (by rw [hR2]; exact hz)] at this
        omega)
      subst hz
      have HG2 := Lib.hid (val_eq (v' := .tuple #[.agg #[.int .i64 (ri : Int), .int .i64 (rj : Int)], .int .i64 0, .bool false]) HG.out rfl)
      clear HG hR2 hyl hysp
      go_wp2_with fail
      refine HG2.out.mono ?_
      rintro e w3 ⟨rfl, hb⟩
      have HBe := Lib.hid ((HJ.out.below.trans (hb.mono HJ.out.below.size)).alloc (by have := HJ.out.below.size; have := hb.size; omega) (.cells #[.int .i64 (ri : Int), .int .i64 (rj : Int)] 53))
      clear hb
      go_wp2
      simp only [Exit.jump]
      go_ret2
      exact ⟨by rw [HE.out]; rfl, HBe.out⟩
    · obtain ⟨hij, hj, f', hf', hc', hs'⟩ := swF_step (by omega) hR2 hz HJ.out.cost
      have hzp : 0 < rz := by
        have := swR_pos (u := uAt m) (xs := ys) (by omega)
        rw [hR2] at this
        simp only at this
        omega
      have HG2 := Lib.hid (val_eq (v' := .tuple #[.agg #[.int .i64 (ri : Int), .int .i64 (rj : Int)], .int .i64 rz, .bool true]) HG.out (by rw [decide_eq_true hzp]))
      have HCn : Hid (cst (uAt m) (tAt (sw2 ys ri rj)) (sw2 ys ri rj).length ≤ f' ∧ 1 + swF (uAt m) f' (sw2 ys ri rj) = R ∧ ∀ y ∈ sw2 ys ri rj, marksL (bl y) = true) := Lib.hid ⟨by rw [sw2_len]; exact hc', by have := HJ.out.cnt; rw [hs'] at this; omega, sw2_mem (by omega) hj HJ.out.mks⟩
      have hri : ri < xs.length := by omega
      have hrj : rj < xs.length := by omega
      have hf2 : f' + 1 = F0 := hf'.symm
      clear HG hR2 hz hc' hs' hf' hzp
      go_wp2_with fail
      refine HG2.out.mono ?_
      rintro e w3 ⟨rfl, hb⟩
      have HJr := Lib.hid ((HJ.out.row.below hb).below (below_alloc w3 (.cells #[.int .i64 (ri : Int), .int .i64 (rj : Int)] 53)))
      have HJb := Lib.hid ((HJ.out.below.trans (hb.mono HJ.out.below.size)).alloc (by have := HJ.out.below.size; have := hb.size; omega) (.cells #[.int .i64 (ri : Int), .int .i64 (rj : Int)] 53))
      have p0 := (two_new w3 ri rj).cell0
      have p1 := (two_new w3 ri rj).cell1
      clear hb
      go_wp2
      go_quiet (fail)
      go_wp2
      obtain ⟨V, hV⟩ : ∃ V : World, V = (w3.alloc (.cells #[.int .i64 (ri : Int), .int .i64 (rj : Int)] 53)).drewN nq := ⟨_, rfl⟩
      have HV : Hid (RowT V B xs.length ys) := Lib.hid (by rw [hV]; exact ⟨HJr.out.row, HJr.out.len⟩)
      have HVb : Hid (Below w.heap.size w V) := Lib.hid (by rw [hV]; exact below_dr HJb.out nq)
      rw [← hV]
      clear hV p0 p1 HJr HJb
      have HS2 := Lib.hid (HV.out.sw hri hrj)
      have d1 := HV.out.row.cell hri
      have d2 := HV.out.row.cell hrj
      have f1 := HV.out.row.frozen ri
      have f2 := HV.out.row.frozen rj
      have HR1 := Lib.hid (HV.out.row.set ri (.string (ys.getD rj ⟨#[]⟩)))
      have d3 := HR1.out.cell hrj
      have f3 := HR1.out.frozen rj
      rw [if_neg (by omega)] at d3
      generalize ys.getD ri ⟨#[]⟩ = xi at *
      generalize ys.getD rj ⟨#[]⟩ = xj at *
      have q0 : (0 : Int) ≤ (ri : Int) := by omega
      have q1 : (ri : Int) < (xs.length : Int) := by omega
      have q2 : (0 : Int) ≤ (rj : Int) := by omega
      have q3 : (rj : Int) < (xs.length : Int) := by omega
      go_region
      all_goals (
        have HJ2 : Hid (SwJ w (((V.setCell ⟨B, ri, none⟩ (.string xj)).setCell ⟨B, rj, none⟩ (.string xi)).drew) B b o g1 xs m (1) f' R (sw2 ys ri rj)) := Lib.hid ⟨⟨HS2.out.row, HS2.out.len⟩, ((HVb.out.setCell (p := ⟨B, ri, none⟩) hB _).setCell (p := ⟨B, rj, none⟩) hB _).drew, HCn.out.2.2, HCn.out.1, HCn.out.2.1⟩
        go_wp2
        go_step3
        refine ⟨rfl, B, hB, 1, f', sw2 ys ri rj, _, _, _, _, _, _, _, _, _, _, _, _, _, _, _, _, _, _, _, _, _, _, _, _, _, _, _, _, _, _, _, _, _, _, _, _, _, _, _, _, _, _, _, _, _, _, _, rfl, by omega, HJ2⟩)
  · rintro a' w' ⟨B, hB, k, f, ys, u3, u8, u9, u10, u11, u12, u13, u14, u15, u16, u17, u18, u19, u20, u21, u22, u23, u24, u25, u26, u27, u28, u29, u30, u31, u32, u33, u34, u35, u36, u37, u38, u39, u40, u41, u42, u43, u44, u45, u46, u47, u48, u49, u50, u51, u52, u53, rfl, hkf, HJ⟩
    have hyl := HJ.out.row.len
    have hysp : 0 < ys.length := by omega
    obtain ⟨ri, rj, rz, hR2⟩ : ∃ ri rj rz, swR (uAt m) (tAt ys) ys.length = ((ri, rj), rz) := ⟨_, _, _, rfl⟩
    have HG := Lib.hid (G.out w' B ys HJ.out.below HJ.out.row HJ.out.mks)
    rw [hR2] at HG
    rw [HL.out, hyl] at HG
    by_cases hz : rz = 0
    · have HE : Hid (R = k) := Lib.hid (by
        have := HJ.out.cnt
        rw [swF_end (by rw [hR2]; exact hz)] at this
        omega)
      subst hz
      have HG2 := Lib.hid (val_eq (v' := .tuple #[.agg #[.int .i64 (ri : Int), .int .i64 (rj : Int)], .int .i64 0, .bool false]) HG.out rfl)
      clear HG hR2 hyl hysp
      go_wp2_with fail
      refine HG2.out.mono ?_
      rintro e w3 ⟨rfl, hb⟩
      have HBe := Lib.hid ((HJ.out.below.trans (hb.mono HJ.out.below.size)).alloc (by have := HJ.out.below.size; have := hb.size; omega) (.cells #[.int .i64 (ri : Int), .int .i64 (rj : Int)] 53))
      clear hb
      go_wp2
      simp only [Exit.jump]
      go_ret2
      exact ⟨by rw [HE.out]; rfl, HBe.out⟩
    · obtain ⟨hij, hj, f', hf', hc', hs'⟩ := swF_step (by omega) hR2 hz HJ.out.cost
      have hzp : 0 < rz := by
        have := swR_pos (u := uAt m) (xs := ys) (by omega)
        rw [hR2] at this
        simp only at this
        omega
      have HG2 := Lib.hid (val_eq (v' := .tuple #[.agg #[.int .i64 (ri : Int), .int .i64 (rj : Int)], .int .i64 rz, .bool true]) HG.out (by rw [decide_eq_true hzp]))
      have HCn : Hid (cst (uAt m) (tAt (sw2 ys ri rj)) (sw2 ys ri rj).length ≤ f' ∧ k + 1 + swF (uAt m) f' (sw2 ys ri rj) = R ∧ ∀ y ∈ sw2 ys ri rj, marksL (bl y) = true) := Lib.hid ⟨by rw [sw2_len]; exact hc', by have := HJ.out.cnt; rw [hs'] at this; omega, sw2_mem (by omega) hj HJ.out.mks⟩
      have hri : ri < xs.length := by omega
      have hrj : rj < xs.length := by omega
      have hf2 : f' + 1 = f := hf'.symm
      clear HG hR2 hz hc' hs' hf' hzp
      go_wp2_with fail
      refine HG2.out.mono ?_
      rintro e w3 ⟨rfl, hb⟩
      have HJr := Lib.hid ((HJ.out.row.below hb).below (below_alloc w3 (.cells #[.int .i64 (ri : Int), .int .i64 (rj : Int)] 53)))
      have HJb := Lib.hid ((HJ.out.below.trans (hb.mono HJ.out.below.size)).alloc (by have := HJ.out.below.size; have := hb.size; omega) (.cells #[.int .i64 (ri : Int), .int .i64 (rj : Int)] 53))
      have p0 := (two_new w3 ri rj).cell0
      have p1 := (two_new w3 ri rj).cell1
      clear hb
      go_wp2
      go_quiet (fail)
      go_wp2
      obtain ⟨V, hV⟩ : ∃ V : World, V = (w3.alloc (.cells #[.int .i64 (ri : Int), .int .i64 (rj : Int)] 53)).drewN nq := ⟨_, rfl⟩
      have HV : Hid (RowT V B xs.length ys) := Lib.hid (by rw [hV]; exact ⟨HJr.out.row, HJr.out.len⟩)
      have HVb : Hid (Below w.heap.size w V) := Lib.hid (by rw [hV]; exact below_dr HJb.out nq)
      rw [← hV]
      clear hV p0 p1 HJr HJb
      have HS2 := Lib.hid (HV.out.sw hri hrj)
      have d1 := HV.out.row.cell hri
      have d2 := HV.out.row.cell hrj
      have f1 := HV.out.row.frozen ri
      have f2 := HV.out.row.frozen rj
      have HR1 := Lib.hid (HV.out.row.set ri (.string (ys.getD rj ⟨#[]⟩)))
      have d3 := HR1.out.cell hrj
      have f3 := HR1.out.frozen rj
      rw [if_neg (by omega)] at d3
      generalize ys.getD ri ⟨#[]⟩ = xi at *
      generalize ys.getD rj ⟨#[]⟩ = xj at *
      have q0 : (0 : Int) ≤ (ri : Int) := by omega
      have q1 : (ri : Int) < (xs.length : Int) := by omega
      have q2 : (0 : Int) ≤ (rj : Int) := by omega
      have q3 : (rj : Int) < (xs.length : Int) := by omega
      go_region
      all_goals (
        have HJ2 : Hid (SwJ w (((V.setCell ⟨B, ri, none⟩ (.string xj)).setCell ⟨B, rj, none⟩ (.string xi)).drew) B b o g1 xs m (k + 1) f' R (sw2 ys ri rj)) := Lib.hid ⟨⟨HS2.out.row, HS2.out.len⟩, ((HVb.out.setCell (p := ⟨B, ri, none⟩) hB _).setCell (p := ⟨B, rj, none⟩) hB _).drew, HCn.out.2.2, HCn.out.1, HCn.out.2.1⟩
        go_wp2
        go_step3
        refine ⟨rfl, ⟨B, hB, k + 1, f', sw2 ys ri rj, _, _, _, _, _, _, _, _, _, _, _, _, _, _, _, _, _, _, _, _, _, _, _, _, _, _, _, _, _, _, _, _, _, _, _, _, _, _, _, _, _, _, _, _, _, _, _, rfl, by omega, HJ2⟩, by simp [intOf]; omega⟩)
end Go.Proofs.Ytfnklfpcmgjfjaa
