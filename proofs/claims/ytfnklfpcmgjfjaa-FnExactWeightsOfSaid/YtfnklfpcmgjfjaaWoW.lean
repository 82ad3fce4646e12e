/-
  WeightsOf, the program's and the model's: both answer alike. Used by the claims on chapter 8.
-/
import Derived.Test.YtfnklfpcmgjfjaaWoL
import Derived.Test.YtfnklfpcmgjfjaaMsgB
import Derived.Test.YtfnklfpcmgjfjaaSeqX
import Derived.IntWalk
namespace Go.Proofs.Ytfnklfpcmgjfjaa
open Go.RowKit
set_option linter.unusedVariables false

theorem infoIw : (Try.prog.info? 3).map (fun i => (i.zero, i.size, i.bytes)) = some (some (.int .i64 0), 1, 8) := by kernel_rfl
def woOk (xs : List ByteArray) (m : ByteArray) : Bool := tableB xs && msgL xs.length (bl m)
def woR (xs : List ByteArray) (m : ByteArray) : List Nat := if woOk xs m = true then woL xs.length (bl m) else []
/-- A row of numbers of letters. -/
structure RowW (wr : World) (B n : Nat) (m : Bs) : Prop where
  row : wr.rowIs B 3 n (fun j => .int .i64 ((woN m j : Nat) : Int))
theorem RowW.set {wr : World} {B n : Nat} {m : Bs} (h : RowW wr B n m) {u : UInt8} {j : Nat} (hu : u.toNat = 97 + j) : RowW (wr.setCell ⟨B, j, none⟩ (.int .i64 ((woN m j : Nat) + 1 : Int))) B n (m ++ [u]) :=
  ⟨(h.row.set j _).congr fun i hi => by
    rw [woN_snoc]
    by_cases e : i = j
    · subst e; rw [if_pos rfl, if_pos hu]; rfl
    · rw [if_neg e, if_neg (by omega)]; rfl⟩
theorem RowW.skip {wr : World} {B n : Nat} {m : Bs} (h : RowW wr B n m) {u : UInt8} (hu : u = 32) : RowW wr B n (m ++ [u]) :=
  ⟨h.row.congr fun i hi => by
    rw [woN_snoc, if_neg (by subst hu; show ¬ 32 = 97 + i; omega)]; rfl⟩
theorem RowW.of {wr wr' : World} {B n : Nat} {m : Bs} (h : RowW wr B n m) (e : wr'.heap[B]? = wr.heap[B]?) : RowW wr' B n m := ⟨h.row.of_block e⟩
theorem rowW_made (w : World) (n : Nat) : RowW (w.alloc (.cells (madeCells #[.int .i64 0] n) 3)) w.heap.size n [] := ⟨(World.rowIs_made w (.int .i64 0) n 3).congr fun i hi => by simp [woN]⟩
theorem rowW_out {W wr : World} {B n : Nat} {m : Bs} (h : RowW wr B n m) (hB : W.heap.size ≤ B) (hb : Below W.heap.size W wr) : SeqOut (ints (woL n m)) n true W (.returned (.tuple #[.slice (some ⟨B, 0, none⟩) n n, .bool true])) wr := by
  refine ⟨some ⟨B, 0, none⟩, B, n, rfl, ⟨fun _ => rfl, fun j v hv => ?_⟩, fun _ => hB, fun j _ => h.row.frozen j, hb⟩
  have hj : j < n := by have := (List.getElem?_eq_some_iff.1 hv).1; rwa [ints_len, woL_len] at this
  rw [woL_at m hj] at hv
  rw [← hv]
  exact h.row.cell hj

set_option maxHeartbeats 2000000 in
set_option maxRecDepth 10000 in
theorem weightsOf_any (a : Option Addr) (b o c : Nat) (xs : List ByteArray) (m : ByteArray) (w : World) (h : ListIn w a b o xs) (hm : m.size ≤ maxLen) :
    Calls Try.prog 48 #[.agg #[.slice a xs.length c], .string m] w (SeqOut (ints (woR xs m)) (woR xs m).length (woOk xs m) w) := by
  have hl := h.len
  have F := Lib.hid fun W hb => isMessage_any a b o c xs m W (h.below (w' := W) hb) hm
  have HK := Lib.hid (cell_new w (.slice a xs.length c) 29)
  unfold maxLen at hm
  clear h
  cases ht : tableB xs
  · have F2 := Lib.hid fun W hb => val_eq (v' := .tuple #[.bool false, .bool false]) (F.out W hb) (by rw [ht]; rfl)
    have HR : Hid (woR xs m = [] ∧ woOk xs m = false) := Lib.hid (by
      have : woOk xs m = false := by simp [woOk, ht]
      exact ⟨by simp [woR, this], this⟩)
    clear F ht
    rw [HR.out.1, HR.out.2]
    go_enter Try.func48, Try.ntmps48
    go_wp2_with fail
    refine (F2.out _ (below_alloc _ _)).mono ?_
    rintro e w1 ⟨rfl, hb⟩
    have HB := Lib.hid ((below_alloc w (.cells #[.slice a xs.length c] 29)).trans (hb.mono (by simp)))
    clear hb
    go_wp2
    go_ret2
    exact seqOut_none HB.out
  · cases hg : msgL xs.length (bl m)
    · have F2 := Lib.hid fun W hb => val_eq (v' := .tuple #[.bool false, .bool true]) (F.out W hb) (by rw [ht, hg]; rfl)
      have HR : Hid (woR xs m = [] ∧ woOk xs m = false) := Lib.hid (by
        have : woOk xs m = false := by simp [woOk, hg]
        exact ⟨by simp [woR, this], this⟩)
      clear F ht hg
      rw [HR.out.1, HR.out.2]
      go_enter Try.func48, Try.ntmps48
      go_wp2_with fail
      refine (F2.out _ (below_alloc _ _)).mono ?_
      rintro e w1 ⟨rfl, hb⟩
      have HB := Lib.hid ((below_alloc w (.cells #[.slice a xs.length c] 29)).trans (hb.mono (by simp)))
      clear hb
      go_wp2
      go_ret2
      exact seqOut_none HB.out
    · have F2 := Lib.hid fun W hb => val_eq (v' := .tuple #[.bool true, .bool true]) (F.out W hb) (by rw [ht, hg]; rfl)
      have HR : Hid (woR xs m = woL xs.length (bl m) ∧ woOk xs m = true ∧ (woL xs.length (bl m)).length = xs.length) := Lib.hid (by
        have : woOk xs m = true := by simp [woOk, ht, hg]
        exact ⟨by simp [woR, this], this, woL_len _ _⟩)
      have hn := ((tableB_iff xs).1 ht).1
      have HSg := Lib.hid (wo_signM hg).2
      have HM12 := Lib.hid (wo_signM hg).1
      have hn10 := hn.2
      have hmk := run_make_row' (P := Try.prog) 25 3 (.int .i64 0) 8 Try.underlying25 infoIw rfl .i64 .i64 xs.length (by omega) (by omega)
      clear F ht hg hn
      rw [HR.out.1, HR.out.2.1, HR.out.2.2]
      go_enter Try.func48, Try.ntmps48
      go_wp2_with fail
      refine (F2.out _ (below_alloc _ _)).mono ?_
      rintro e w1 ⟨rfl, hb⟩
      have HB := Lib.hid ((below_alloc w (.cells #[.slice a xs.length c] 29)).trans (hb.mono (by simp)))
      have hc := (hb.cell (p := ⟨w.heap.size, 0, none⟩) (by simp)).trans HK.out
      have hlt1 : w.heap.size < w1.heap.size := Nat.lt_of_lt_of_le (by simp) hb.size
      clear hb
      have HR0 : Hid (RowW ((w1.alloc (.cells (madeCells #[.int .i64 0] xs.length) 3)).alloc (.stringIter m 0)) w1.heap.size xs.length ((bl m).take 0)) := Lib.hid ⟨(rowW_made w1 xs.length).row.alloc _⟩
      have HB0 := Lib.hid ((HB.out.alloc HB.out.size (.cells (madeCells #[.int .i64 0] xs.length) 3)).alloc (by have := HB.out.size; simp; omega) (.stringIter m 0))
      have hi0 := World.iter_heap (w1.alloc (.cells (madeCells #[.int .i64 0] xs.length) 3)) m 0
      have e0 : (w1.alloc (.cells (madeCells #[.int .i64 0] xs.length) 3)).heap.size = w1.heap.size + 1 := by simp
      rw [e0] at hi0
      have HI0 := Lib.hid hi0
      have hsz1 : w.heap.size ≤ w1.heap.size := HB.out.size
      clear hi0 e0 hlt1
      go_wp2
      clear hmk hc
      go_loopw [] (fun wr => ∃ pos, wr.heap[w1.heap.size + 1]? = some (.stringIter m pos) ∧ pos ≤ m.size ∧ Hid (Below w.heap.size w wr) ∧ Hid (RowW wr w1.heap.size xs.length ((bl m).take pos))) (fun wr => m.size - wr.iterPos (w1.heap.size + 1))
      case atStart => exact ⟨0, HI0.out, Nat.zero_le _, HB0, HR0⟩
      case round =>
        obtain ⟨pos, hit, hp, HBw, HC⟩ := hrel
        have HP := Lib.hid (iterPos_of hit)
        by_cases hlt : pos < m.size
        · obtain ⟨r, wd, hde, hr, hwd, hcase⟩ := sign_at m pos hlt
          have hnx : ∀ ty, (Instr.next (.pointer (some ⟨w1.heap.size + 1, 0, none⟩)) true ty).run Try.prog wr = _ := fun ty => Lib.run_next_any_at wr (w1.heap.size + 1) m pos ty hit hlt
          have HBy := Lib.hid (bl_at m pos hlt)
          have hsg := HSg.out _ (List.mem_of_getElem? HBy.out)
          have hin : m[pos] = 32 ∨ (97 ≤ m[pos].toNat ∧ m[pos].toNat < 97 + xs.length) := by
            rcases hsg with h | h
            · exact .inl h
            · rw [inRow_iff, Bool.and_eq_true] at h
              simpa using Or.inr (a := m[pos] = 32) h
          have hr2 : r = m[pos].toNat ∧ wd = 1 := by
            rcases hcase with ⟨_, h2, h3⟩ | ⟨h1, h2⟩
            · exact ⟨h2, h3⟩
            · rcases hin with h | h
              · rw [h] at h2; exact absurd h2 (by decide)
              · omega
          obtain ⟨rfl, rfl⟩ := hr2
          have hit2 := Lib.iterAt_heap wr (w1.heap.size + 1) m pos (pos + 1) hit
          have HB2 : Hid (Below w.heap.size w (wr.iterAt (w1.heap.size + 1) m (pos + 1))) := Lib.hid (Lib.below_iterAt HBw.out (k := w1.heap.size + 1) (by omega) m (pos + 1))
          have HC2 : Hid (RowW (wr.iterAt (w1.heap.size + 1) m (pos + 1)) w1.heap.size xs.length ((bl m).take pos)) := Lib.hid (HC.out.of (Lib.iterAt_other wr _ _ _ _ (by omega)))
          have HTk : Hid ((bl m).take (pos + 1) = (bl m).take pos ++ [m[pos]]) := Lib.hid (by rw [List.take_add_one, HBy.out]; rfl)
          rw [hde] at hnx
          simp only at hnx
          obtain ⟨W1, hW1⟩ : ∃ W1, W1 = wr.iterAt (w1.heap.size + 1) m (pos + 1) := ⟨_, rfl⟩
          rw [← hW1] at hnx hit2 HB2 HC2
          clear hW1 hit hde hcase hwd hsg
          generalize hu : m[pos] = u at *
          rcases hin with h32 | ⟨h1, h2⟩
          · have HN : Hid (RowW W1 w1.heap.size xs.length ((bl m).take (pos + 1))) := Lib.hid (by rw [HTk.out]; exact HC2.out.skip h32)
            have e1 : u.toNat = 32 := by rw [h32]; rfl
            rw [e1] at hnx
            clear h32 e1 hr
            go_wp2
            go_roundw
            case rel => exact ⟨pos + 1, hit2, by omega, HB2, HN⟩
            case measure => rw [iterPos_of hit2, HP.out]; omega
          · obtain ⟨j, hj⟩ : ∃ j, u.toNat = 97 + j := ⟨u.toNat - 97, by omega⟩
            have hjn : j < xs.length := by omega
            have HN : Hid (RowW (W1.setCell ⟨w1.heap.size, j, none⟩ (.int .i64 ((woN ((bl m).take pos) j : Nat) + 1 : Int))) w1.heap.size xs.length ((bl m).take (pos + 1))) := Lib.hid (by rw [HTk.out]; exact HC2.out.set hj)
            have d1 := HC2.out.row.cell hjn
            have d2 := HC2.out.row.frozen j
            have hb1 := woN_le ((bl m).take pos) j
            have hb2 : ((bl m).take pos).length ≤ 12 := by rw [List.length_take]; have := HM12.out; omega
            generalize woN ((bl m).take pos) j = y at *
            have HB3 := Lib.hid (HB2.out.setCell (p := ⟨w1.heap.size, j, none⟩) hsz1 (.int .i64 ((y : Int) + 1)))
            have hit3 : (W1.setCell ⟨w1.heap.size, j, none⟩ (.int .i64 ((y : Int) + 1))).heap[w1.heap.size + 1]? = some (.stringIter m (pos + 1)) := by
              rw [Below.heap_setCell _ _ _ _ (by show ¬ w1.heap.size + 1 = w1.heap.size; omega)]
              exact hit2
            have e3 : ((u.toNat : Int) == 32) = false := beq_false_of_ne (by omega)
            have e4 : ((u.toNat : Int) != 32) = true := by rw [bne, e3]; rfl
            have ej : u.toNat - 97 = j := by omega
            have ej2 : (u.toNat : Int) - 97 = (j : Int) := by omega
            have yb : y ≤ 12 := by omega
            clear hj h1 h2 hb1 hb2 hr
            go_wp2
            go_roundw
            case rel => exact ⟨pos + 1, hit3, by omega, HB3, HN⟩
            case measure => rw [iterPos_of hit3, HP.out]; omega
        · have hnx : ∀ ty, (Instr.next (.pointer (some ⟨w1.heap.size + 1, 0, none⟩)) true ty).run Try.prog wr = _ := fun ty => Lib.run_next_end_at wr (w1.heap.size + 1) m pos ty hit hlt
          have HF : Hid (RowW wr w1.heap.size xs.length (bl m)) := Lib.hid (by
            have := HC.out
            rwa [List.take_of_length_le (by rw [bl_len]; omega)] at this)
          go_wp2
          go_ret2
          exact rowW_out HF.out hsz1 HBw.out

/-! ### The model's -/
set_option maxHeartbeats 2000000 in
set_option maxRecDepth 10000 in
theorem sWeightsOf_any (a : Option Addr) (b o c : Nat) (xs : List ByteArray) (m : ByteArray) (w : World) (h : ListIn w a b o xs) (hm : m.size ≤ maxLen) :
    Calls Try.prog 47 #[.agg #[.slice a xs.length c], .string m] w (SeqOut (ints (woR xs m)) (woR xs m).length (woOk xs m) w) := by
  have hl := h.len
  have F := Lib.hid fun W hb => stable_any a b o c xs W (h.below (w' := W) hb)
  have HK := Lib.hid (cell_new w (.slice a xs.length c) 29)
  clear h
  cases ht : tableB xs
  · have F2 := Lib.hid fun W hb => val_eq (v' := .bool false) (F.out W hb) (by rw [ht])
    have HR : Hid (woR xs m = [] ∧ woOk xs m = false) := Lib.hid (by
      have : woOk xs m = false := by simp [woOk, ht]
      exact ⟨by simp [woR, this], this⟩)
    clear F ht
    rw [HR.out.1, HR.out.2]
    go_enter Try.func47, Try.ntmps47
    go_wp2_with fail
    refine (F2.out _ (below_alloc _ _)).mono ?_
    rintro e w1 ⟨rfl, hb⟩
    have HB := Lib.hid ((below_alloc w (.cells #[.slice a xs.length c] 29)).trans (hb.mono (by simp)))
    clear hb
    go_wp2
    go_ret2
    exact ⟨_, w.heap.size, _, rfl, ⟨fun h => by simp [ints] at h, fun j x hx => by simp [ints] at hx⟩, fun h => by simp [ints] at h, fun j hj => by simp [ints] at hj, HB.out.alloc HB.out.size _⟩
  · have hn := ((tableB_iff xs).1 ht).1
    have G := Lib.hid fun W => sMsg_any a b o c xs m W hn.1 hn.2 hm
    have F2 := Lib.hid fun W hb => val_eq (v' := .bool true) (F.out W hb) (by rw [ht])
    unfold maxLen at hm
    cases hg : msgL xs.length (bl m)
    · have G2 := Lib.hid fun W => val_eq (v' := .bool false) (G.out W) (by rw [hg])
      have HR : Hid (woR xs m = [] ∧ woOk xs m = false) := Lib.hid (by
        have : woOk xs m = false := by simp [woOk, hg]
        exact ⟨by simp [woR, this], this⟩)
      clear F G ht hg hn
      rw [HR.out.1, HR.out.2]
      go_enter Try.func47, Try.ntmps47
      go_wp2_with fail
      refine (F2.out _ (below_alloc _ _)).mono ?_
      rintro e w1 ⟨rfl, hb⟩
      have HB := Lib.hid ((below_alloc w (.cells #[.slice a xs.length c] 29)).trans (hb.mono (by simp)))
      have hc := (hb.cell (p := ⟨w.heap.size, 0, none⟩) (by simp)).trans HK.out
      clear hb
      go_wp2_with fail
      refine (G2.out _).mono ?_
      rintro e w2 ⟨rfl, hb⟩
      have HB2 := Lib.hid (HB.out.trans (hb.mono HB.out.size))
      clear hb
      go_wp2
      go_ret2
      exact ⟨_, w.heap.size, _, rfl, ⟨fun h => by simp [ints] at h, fun j x hx => by simp [ints] at hx⟩, fun h => by simp [ints] at h, fun j hj => by simp [ints] at hj, HB2.out.alloc HB2.out.size _⟩
    · have G2 := Lib.hid fun W => val_eq (v' := .bool true) (G.out W) (by rw [hg])
      have HR : Hid (woR xs m = woL xs.length (bl m) ∧ woOk xs m = true ∧ (woL xs.length (bl m)).length = xs.length) := Lib.hid (by
        have : woOk xs m = true := by simp [woOk, ht, hg]
        exact ⟨by simp [woR, this], this, woL_len _ _⟩)
      have HSg := Lib.hid (wo_signM hg).2
      have HM12 := Lib.hid (wo_signM hg).1
      have hn10 := hn.2
      have hmk := run_make_row' (P := Try.prog) 25 3 (.int .i64 0) 8 Try.underlying25 infoIw rfl .i64 .i64 xs.length (by omega) (by omega)
      clear F G ht hg hn
      rw [HR.out.1, HR.out.2.1, HR.out.2.2]
      go_enter Try.func47, Try.ntmps47
      go_wp2_with fail
      refine (F2.out _ (below_alloc _ _)).mono ?_
      rintro e w0 ⟨rfl, hb⟩
      have HB0 := Lib.hid ((below_alloc w (.cells #[.slice a xs.length c] 29)).trans (hb.mono (by simp)))
      have hc0 := (hb.cell (p := ⟨w.heap.size, 0, none⟩) (by simp)).trans HK.out
      clear hb
      go_wp2_with fail
      refine (G2.out _).mono ?_
      rintro e w1 ⟨rfl, hb⟩
      have HB := Lib.hid (HB0.out.trans (hb.mono HB0.out.size))
      have hc := (hb.cell (p := ⟨w.heap.size, 0, none⟩) (World.block_lt_of_cell? _ _ hc0)).trans hc0
      clear hb hc0
      have HR0 : Hid (RowW (w1.alloc (.cells (madeCells #[.int .i64 0] xs.length) 3)) w1.heap.size xs.length ((bl m).take 0)) := Lib.hid (rowW_made w1 xs.length)
      have HB1 := Lib.hid (HB.out.alloc HB.out.size (.cells (madeCells #[.int .i64 0] xs.length) 3))
      have hsz1 : w.heap.size ≤ w1.heap.size := HB.out.size
      go_wp2
      clear hmk hc
      go_loopw [7] (fun v wr => ∃ pos : Nat, v = .int .i64 pos ∧ pos ≤ m.size ∧ Hid (Below w.heap.size w wr) ∧ Hid (RowW wr w1.heap.size xs.length ((bl m).take pos))) (fun v wr => m.size - (intOf v).toNat)
      case atStart => exact ⟨0, rfl, Nat.zero_le _, HB1, HR0⟩
      case round =>
        obtain ⟨pos, rfl, hp, HBw, HC⟩ := hrel
        by_cases hlt : pos < m.size
        · have HBy := Lib.hid (bl_at m pos hlt)
          have hsg := HSg.out _ (List.mem_of_getElem? HBy.out)
          have HTk : Hid ((bl m).take (pos + 1) = (bl m).take pos ++ [m[pos]]) := Lib.hid (by rw [List.take_add_one, HBy.out]; rfl)
          have i0 : (0 : Int) ≤ (pos : Int) := by omega
          have i1 : (pos : Int) < (m.size : Int) := by omega
          rcases hsg with h32 | hin
          · have HN : Hid (RowW wr w1.heap.size xs.length ((bl m).take (pos + 1))) := Lib.hid (by rw [HTk.out]; exact HC.out.skip h32)
            have e3 : ((m[pos].toNat : Int) == 32) = true := by rw [h32]; rfl
            have e4 : ((m[pos].toNat : Int) != 32) = false := by rw [bne, e3]; rfl
            clear h32
            go_wp2
            go_roundw
            case rel => exact ⟨pos + 1, by go_num, by omega, HBw, HN⟩
            case measure => simp [intOf]; omega
          · have h12 : 97 ≤ m[pos].toNat ∧ m[pos].toNat < 97 + xs.length := by
              rw [inRow_iff, Bool.and_eq_true] at hin
              simpa using hin
            obtain ⟨j, hj⟩ : ∃ j, m[pos].toNat = 97 + j := ⟨m[pos].toNat - 97, by omega⟩
            have hjn : j < xs.length := by omega
            have HN : Hid (RowW (wr.setCell ⟨w1.heap.size, j, none⟩ (.int .i64 ((woN ((bl m).take pos) j : Nat) + 1 : Int))) w1.heap.size xs.length ((bl m).take (pos + 1))) := Lib.hid (by rw [HTk.out]; exact HC.out.set hj)
            have d1 := HC.out.row.cell hjn
            have d2 := HC.out.row.frozen j
            have hb1 := woN_le ((bl m).take pos) j
            have hb2 : ((bl m).take pos).length ≤ 12 := by rw [List.length_take]; have := HM12.out; omega
            generalize woN ((bl m).take pos) j = y at *
            have yb : y ≤ 12 := by omega
            have HB3 := Lib.hid (HBw.out.setCell (p := ⟨w1.heap.size, j, none⟩) hsz1 (.int .i64 ((y : Int) + 1)))
            have e3 : ((m[pos].toNat : Int) == 32) = false := beq_false_of_ne (by omega)
            have e4 : ((m[pos].toNat : Int) != 32) = true := by rw [bne, e3]; rfl
            have ej : m[pos].toNat - 97 = j := by omega
            have ej2 : (m[pos].toNat : Int) - 97 = (j : Int) := by omega
            clear hj hin h12 hb1 hb2
            go_wp2
            go_roundw
            case rel => exact ⟨pos + 1, by go_num, by omega, HB3, HN⟩
            case measure => simp [intOf]; omega
        · have HF : Hid (RowW wr w1.heap.size xs.length (bl m)) := Lib.hid (by
            have := HC.out
            rwa [List.take_of_length_le (by rw [bl_len]; omega)] at this)
          go_wp2
          go_ret2
          exact rowW_out HF.out hsz1 HBw.out

theorem weightsOf_both (xs : List ByteArray) (m : ByteArray) (hl : xs.length ≤ 1048576) (ht : ∀ x ∈ xs, x.size ≤ 1048576) (hm : m.size ≤ 1048576) : ∃ (l : List Nat) (R1 : Bool), l.length ≤ 1048576 ∧
    Hid (∀ W a b o c, ListIn W a b o xs → Calls Try.prog 47 #[.agg #[.slice a xs.length c], .string m] W (SeqOut (ints l) l.length R1 W)) ∧
    Hid (∀ W a b o c, ListIn W a b o xs → Calls Try.prog 48 #[.agg #[.slice a xs.length c], .string m] W (SeqOut (ints l) l.length R1 W)) :=
  ⟨woR xs m, woOk xs m, by
    unfold woR
    split
    · rw [woL_len]; exact hl
    · simp, fun W a b o c h => sWeightsOf_any a b o c xs m W h (by unfold maxLen; omega), fun W a b o c h => weightsOf_any a b o c xs m W h (by unfold maxLen; omega)⟩
end Go.Proofs.Ytfnklfpcmgjfjaa
