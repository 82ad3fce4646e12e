/-
  BestSwap, the program's and the model's: both answer alike. Used by the claims on chapter 8.
-/
import Derived.Test.YtfnklfpcmgjfjaaSwpS
namespace Go.Proofs.Ytfnklfpcmgjfjaa
open Go.RowKit
set_option linter.unusedVariables false

def bsR (xs : List ByteArray) (l : List Int) : (Nat × Nat) × Int := if fitB xs l = true then swR (uAt (l.map Int.toNat)) (tAt xs) xs.length else ((0, 0), 0)
def bsOk (xs : List ByteArray) (l : List Int) : Bool := fitB xs l && decide (0 < (bsR xs l).2)
theorem bs_no {xs : List ByteArray} {l : List Int} (h : fitB xs l = false) : bsR xs l = ((0, 0), 0) ∧ bsOk xs l = false := by
  have : bsR xs l = ((0, 0), 0) := by unfold bsR; rw [if_neg (by simp [h])]
  exact ⟨this, by simp [bsOk, h]⟩
theorem bs_yes {xs : List ByteArray} {m : List Nat} (h : fitB xs (zs m) = true) : ∃ ri rj rz, swR (uAt m) (tAt xs) xs.length = ((ri, rj), rz) ∧ bsR xs (zs m) = ((ri, rj), rz) ∧ bsOk xs (zs m) = decide (0 < rz) := by
  have e : bsR xs (zs m) = swR (uAt m) (tAt xs) xs.length := by unfold bsR; rw [if_pos h, map_zs]
  refine ⟨_, _, _, rfl, e, ?_⟩
  unfold bsOk
  rw [h, e]; rfl

set_option maxHeartbeats 1000000 in
theorem bestSwapT_any (a : Option Addr) (b o c : Nat) (xs : List ByteArray) (a1 : Option Addr) (g1 c1 : Nat) (l : List Int) (w : World) (h : ListIn w a b o xs) (hs : SrcV w a1 g1 (intz l)) (hl : l.length ≤ 1048576) :
    Calls Try.prog 43 #[.agg #[.slice a xs.length c], .slice a1 l.length c1] w fun e w' => e = .returned (.tuple #[.agg #[.int .i64 ((bsR xs l).1.1 : Nat), .int .i64 ((bsR xs l).1.2 : Nat)], .int .i64 (bsR xs l).2, .bool (bsOk xs l)]) ∧ Below w.heap.size w w' := by
  have hxl := h.len
  have F := Lib.hid fun W hb => areWFor_any a b o c xs a1 g1 c1 l W (h.below (w' := W) hb) (hs.below hb) hl
  have HT0 := two_new (w.alloc (.cells #[.slice a xs.length c] 29)) 0 0
  have e0 : (w.alloc (.cells #[.slice a xs.length c] 29)).heap.size = w.heap.size + 1 := by simp
  rw [e0] at HT0
  have HT := Lib.hid HT0
  have HB0 := Lib.hid ((below_alloc w (.cells #[.slice a xs.length c] 29)).alloc (by simp) (.cells #[.int .i64 0, .int .i64 0] 53))
  have HK := Lib.hid (keep_cell _ (.cells #[.int .i64 0, .int .i64 0] 53) (cell_new w (.slice a xs.length c) 29))
  clear HT0 e0
  by_cases hf : fitB xs l = true
  · obtain ⟨m, rfl, hm, ht, hlen⟩ := fit_nat hf
    have G := Lib.hid fun W hb => bestSwap_any a b o c xs a1 g1 c1 m W (h.below (w' := W) hb).src (hs.below hb) ((tableB_iff xs).1 ht).2.1 hm hlen
    have F2 := Lib.hid fun W hb => val_eq (v' := .bool true) (F.out W hb) (by rw [hf])
    obtain ⟨ri, rj, rz, h1, h2, h3⟩ := bs_yes hf
    rw [h1] at G
    rw [h2, h3]
    rw [zs_len] at F2 ⊢
    clear F h hs hf ht hm hlen h1 h2 h3
    go_enter Try.func43, Try.ntmps43
    go_wp2_with fail
    generalize (w.alloc (.cells #[.slice a xs.length c] 29)).alloc (.cells #[.int .i64 0, .int .i64 0] 53) = W0 at *
    refine (F2.out _ HB0.out).mono ?_
    rintro e w1 ⟨rfl, hb⟩
    have HB := Lib.hid (HB0.out.trans (hb.mono HB0.out.size))
    have hc := (hb.cell (World.block_lt_of_cell? _ _ HK.out)).trans HK.out
    have HT1 := Lib.hid (HT.out.below hb)
    clear hb
    go_wp2_with fail
    refine (G.out _ HB.out).mono ?_
    rintro e w2 ⟨rfl, hb⟩
    have HB2 := Lib.hid (HB.out.trans (hb.mono HB.out.size))
    have HT2 := Lib.hid (HT1.out.below hb)
    clear hb hc
    have f0 := HT2.out.frozen 0
    have f1 := HT2.out.frozen 1
    have k0 := HT2.out.cell0
    have k1 := HT2.out.cell1
    go_wp2
    refine bodyPost_ret (res_two3 rfl _ rfl ((HT2.out.set0 _).set1 _)) rfl ?_
    exact ⟨rfl, (HB2.out.setCell (p := ⟨w.heap.size + 1, 0, none⟩) (by simp) _).setCell (p := ⟨w.heap.size + 1, 1, none⟩) (by simp) _⟩
  · have hf2 : fitB xs l = false := by simpa using hf
    have F2 := Lib.hid fun W hb => val_eq (v' := .bool false) (F.out W hb) (by rw [hf2])
    have HR := Lib.hid (bs_no hf2)
    rw [HR.out.1, HR.out.2]
    clear F h hs hf hf2
    go_enter Try.func43, Try.ntmps43
    go_wp2_with fail
    generalize (w.alloc (.cells #[.slice a xs.length c] 29)).alloc (.cells #[.int .i64 0, .int .i64 0] 53) = W0 at *
    refine (F2.out _ HB0.out).mono ?_
    rintro e w1 ⟨rfl, hb⟩
    have HB2 := Lib.hid (HB0.out.trans (hb.mono HB0.out.size))
    have HT2 := Lib.hid (HT.out.below hb)
    clear hb
    have f0 := HT2.out.frozen 0
    have f1 := HT2.out.frozen 1
    have k0 := HT2.out.cell0
    have k1 := HT2.out.cell1
    go_wp2
    refine bodyPost_ret (res_two3 rfl _ rfl ((HT2.out.set0 _).set1 _)) rfl ?_
    exact ⟨rfl, (HB2.out.setCell (p := ⟨w.heap.size + 1, 0, none⟩) (by simp) _).setCell (p := ⟨w.heap.size + 1, 1, none⟩) (by simp) _⟩

/-! ### The model's -/
set_option maxHeartbeats 1000000 in
theorem sBestSwapT_any (a : Option Addr) (b o c : Nat) (xs : List ByteArray) (a1 : Option Addr) (g1 c1 : Nat) (l : List Int) (w : World) (h : ListIn w a b o xs) (hs : SrcV w a1 g1 (intz l)) (hl : l.length ≤ 1048576) :
    Calls Try.prog 42 #[.agg #[.slice a xs.length c], .slice a1 l.length c1] w fun e w' => e = .returned (.tuple #[.agg #[.int .i64 ((bsR xs l).1.1 : Nat), .int .i64 ((bsR xs l).1.2 : Nat)], .int .i64 (bsR xs l).2, .bool (bsOk xs l)]) ∧ Below w.heap.size w w' := by
  have hxl := h.len
  have F := Lib.hid fun W hb => sFits_any a b o c xs a1 g1 c1 l W (h.below (w' := W) hb) (hs.below hb) hl
  have HT0 := two_new (w.alloc (.cells #[.slice a xs.length c] 29)) 0 0
  have e0 : (w.alloc (.cells #[.slice a xs.length c] 29)).heap.size = w.heap.size + 1 := by simp
  rw [e0] at HT0
  have HT := Lib.hid HT0
  have HB0 := Lib.hid ((below_alloc w (.cells #[.slice a xs.length c] 29)).alloc (by simp) (.cells #[.int .i64 0, .int .i64 0] 53))
  have HK := Lib.hid (keep_cell _ (.cells #[.int .i64 0, .int .i64 0] 53) (cell_new w (.slice a xs.length c) 29))
  clear HT0 e0
  by_cases hf : fitB xs l = true
  · obtain ⟨m, rfl, hm, ht, hlen⟩ := fit_nat hf
    have G := Lib.hid fun W hb => sSwap_any a b o c xs a1 g1 c1 m W (h.below (w' := W) hb).src (hs.below hb) ((tableB_iff xs).1 ht).2.1 hm hlen
    have F2 := Lib.hid fun W hb => val_eq (v' := .bool true) (F.out W hb) (by rw [hf])
    obtain ⟨ri, rj, rz, h1, h2, h3⟩ := bs_yes hf
    rw [h1] at G
    rw [h2, h3]
    rw [zs_len] at F2 ⊢
    clear F h hs hf ht hm hlen h1 h2 h3
    go_enter Try.func42, Try.ntmps42
    go_wp2_with fail
    generalize (w.alloc (.cells #[.slice a xs.length c] 29)).alloc (.cells #[.int .i64 0, .int .i64 0] 53) = W0 at *
    refine (F2.out _ HB0.out).mono ?_
    rintro e w1 ⟨rfl, hb⟩
    have HB := Lib.hid (HB0.out.trans (hb.mono HB0.out.size))
    have hc := (hb.cell (World.block_lt_of_cell? _ _ HK.out)).trans HK.out
    have HT1 := Lib.hid (HT.out.below hb)
    clear hb
    go_wp2_with fail
    refine (G.out _ HB.out).mono ?_
    rintro e w2 ⟨rfl, hb⟩
    have HB2 := Lib.hid ((HB.out.trans (hb.mono HB.out.size)).alloc (by have := HB.out.size; have := hb.size; omega) (.cells #[.int .i64 (ri : Int), .int .i64 (rj : Int)] 53))
    have HT2 := Lib.hid ((HT1.out.below hb).below (below_alloc w2 (.cells #[.int .i64 (ri : Int), .int .i64 (rj : Int)] 53)))
    have HP2 := Lib.hid (two_new w2 ri rj)
    clear hb hc
    have f0 := HT2.out.frozen 0
    have f1 := HT2.out.frozen 1
    have k0 := HT2.out.cell0
    have k1 := HT2.out.cell1
    have l1 := load_two HP2.out
    go_wp2
    refine bodyPost_ret (res_two3 rfl _ rfl ((HT2.out.set0 _).set1 _)) rfl ?_
    exact ⟨rfl, (HB2.out.setCell (p := ⟨w.heap.size + 1, 0, none⟩) (by simp) _).setCell (p := ⟨w.heap.size + 1, 1, none⟩) (by simp) _⟩
  · have hf2 : fitB xs l = false := by simpa using hf
    have F2 := Lib.hid fun W hb => val_eq (v' := .bool false) (F.out W hb) (by rw [hf2])
    have HR := Lib.hid (bs_no hf2)
    rw [HR.out.1, HR.out.2]
    clear F h hs hf hf2
    go_enter Try.func42, Try.ntmps42
    go_wp2_with fail
    generalize (w.alloc (.cells #[.slice a xs.length c] 29)).alloc (.cells #[.int .i64 0, .int .i64 0] 53) = W0 at *
    refine (F2.out _ HB0.out).mono ?_
    rintro e w1 ⟨rfl, hb⟩
    have HB2 := Lib.hid (HB0.out.trans (hb.mono HB0.out.size))
    have HT2 := Lib.hid (HT.out.below hb)
    clear hb
    have f0 := HT2.out.frozen 0
    have f1 := HT2.out.frozen 1
    have k0 := HT2.out.cell0
    have k1 := HT2.out.cell1
    go_wp2
    refine bodyPost_ret (res_two3 rfl _ rfl ((HT2.out.set0 _).set1 _)) rfl ?_
    exact ⟨rfl, (HB2.out.setCell (p := ⟨w.heap.size + 1, 0, none⟩) (by simp) _).setCell (p := ⟨w.heap.size + 1, 1, none⟩) (by simp) _⟩

theorem bestSwap_both (xs : List ByteArray) (l : List Int) (hxl : xs.length ≤ 1048576) (hxt : ∀ x ∈ xs, x.size ≤ 1048576) (hl : l.length ≤ 1048576) : ∃ (R0 R2 R3 : Int) (R1 : Bool),
    Hid (∀ W a b o c, ListIn W a b o xs → ∀ a1 g1 c1, SrcV W a1 g1 (intz l) → Calls Try.prog 42 #[.agg #[.slice a xs.length c], .slice a1 l.length c1] W fun e W' => e = .returned (.tuple #[.agg #[.int .i64 R0, .int .i64 R2], .int .i64 R3, .bool R1]) ∧ Below W.heap.size W W') ∧
    Hid (∀ W a b o c, ListIn W a b o xs → ∀ a1 g1 c1, SrcV W a1 g1 (intz l) → Calls Try.prog 43 #[.agg #[.slice a xs.length c], .slice a1 l.length c1] W fun e W' => e = .returned (.tuple #[.agg #[.int .i64 R0, .int .i64 R2], .int .i64 R3, .bool R1]) ∧ Below W.heap.size W W') :=
  ⟨_, _, _, _, fun W a b o c h a1 g1 c1 hs => sBestSwapT_any a b o c xs a1 g1 c1 l W h hs hl, fun W a b o c h a1 g1 c1 hs => bestSwapT_any a b o c xs a1 g1 c1 l W h hs hl⟩
end Go.Proofs.Ytfnklfpcmgjfjaa
