/-
  What a walk carries of a Table and a noise; l7Letter of the model; letters' marks. Used by the claims on chapter 7.
-/
import Derived.Test.YtomhjfjfmjacfaaChB
import Derived.Test.YtomhjfjfmjacfaaMarkB
namespace Go.Proofs.Ytomhjfjfmjacfaa
open Go.RowKit
set_option linter.unusedVariables false

structure CarT (w : World) (a : Option Addr) (b o c : Nat) (xs : List ByteArray) (gT gN : Nat) (N d : Int) (W : World) : Prop where
  tab : W.cell? ⟨gT, 0, none⟩ = some (.slice a xs.length c)
  noi : Pr2 25 W gN N d
  lst : ListIn W a b o xs
  below : Below w.heap.size w W
theorem CarT.step {w : World} {a : Option Addr} {b o c : Nat} {xs : List ByteArray} {gT gN : Nat} {N d : Int} {W W' : World} (h : CarT w a b o c xs gT gN N d W) (hb : Below W.heap.size W W') : CarT w a b o c xs gT gN N d W' :=
  ⟨(hb.cell (World.block_lt_of_cell? _ _ h.tab)).trans h.tab, h.noi.below hb, h.lst.below hb, h.below.trans (hb.mono h.below.size)⟩
theorem CarT.drew {w : World} {a : Option Addr} {b o c : Nat} {xs : List ByteArray} {gT gN : Nat} {N d : Int} {W : World} (h : CarT w a b o c xs gT gN N d W) : CarT w a b o c xs gT gN N d W.drew := ⟨h.tab, h.noi, h.lst.below (Below.refl W.heap.size W).drew, h.below.drew⟩
theorem CarT.low {w : World} {a : Option Addr} {b o c : Nat} {xs : List ByteArray} {gT gN : Nat} {N d : Int} {W : World} (h : CarT w a b o c xs gT gN N d W) : gT < W.heap.size ∧ gN < W.heap.size := ⟨World.block_lt_of_cell? _ _ h.tab, h.noi.lt⟩
theorem carT_new (w : World) (a : Option Addr) (b o c : Nat) (xs : List ByteArray) (N d : Int) (h : ListIn w a b o xs) :
    CarT w a b o c xs w.heap.size (w.heap.size + 1) N d ((w.alloc (.cells #[.slice a xs.length c] 38)).alloc (.cells #[.int .i64 N, .int .i64 d] 25)) := by
  have hN := pr2_new 25 (w.alloc (.cells #[.slice a xs.length c] 38)) N d
  have e0 : (w.alloc (.cells #[.slice a xs.length c] 38)).heap.size = w.heap.size + 1 := by simp
  rw [e0] at hN
  exact ⟨keep_cell _ _ (cell_new _ _ _), hN, (h.below (below_alloc w _)).below (below_alloc _ _), (below_alloc w _).alloc (by simp) _⟩
theorem res_new (w : World) (o1 o2 : Obj) : Two (((w.alloc o1).alloc o2).alloc (.cells #[.int .i64 0, .int .i64 0] 28)) (w.heap.size + 1 + 1) 0 0 := by
  have h := two_new ((w.alloc o1).alloc o2) 0 0
  have e : ((w.alloc o1).alloc o2).heap.size = w.heap.size + 1 + 1 := by simp
  rw [e] at h; exact h

theorem tab_good {xs : List ByteArray} (h : tableB xs = true) {i : Nat} (hi : i < xs.length) : marksL (bl xs[i]) = true := ((tableB_iff xs).1 h).2.1 _ (List.getElem_mem hi)
theorem marksR_yes {xs : List ByteArray} {i : Nat} (h : tableB xs = true) (hi : i < xs.length) : marksR xs (i : Int) = (xs[i], true) := by
  unfold marksR
  rw [if_pos ⟨h, by omega, by omega⟩]
  simp [List.getD_eq_getElem?_getD, List.getElem?_eq_getElem hi]
theorem marksR_no {xs : List ByteArray} {i : Int} (h : (marksR xs i).2 = false) : marksR xs i = (⟨#[]⟩, false) := by
  unfold marksR at h ⊢
  split
  · rename_i e; rw [if_pos e] at h; cases h
  · rfl
theorem marksR_cases (xs : List ByteArray) (i : Int) : (marksR xs i).2 = false ∨ ∃ n : Nat, i = (n : Int) ∧ ∃ h : n < xs.length, tableB xs = true ∧ marksR xs i = (xs[n], true) := by
  by_cases h : tableB xs = true ∧ 0 ≤ i ∧ i < xs.length
  · obtain ⟨h1, h2, h3⟩ := h
    obtain ⟨n, rfl⟩ : ∃ n : Nat, i = (n : Int) := ⟨i.toNat, by omega⟩
    exact .inr ⟨n, rfl, by omega, h1, marksR_yes h1 (by omega)⟩
  · left
    unfold marksR
    rw [if_neg h]

/-- Whether a Table, a noise and a letter are valid. -/
def ltrB (N d : Int) (xs : List ByteArray) (i : Int) : Bool := (tableB xs && goodN N d) && (decide (0 ≤ i) && decide (i ≤ (xs.length : Int) - 1))
theorem ltrB_marks (N d : Int) (xs : List ByteArray) (i : Int) : ltrB N d xs i = (goodN N d && (marksR xs i).2) := by
  unfold ltrB marksR
  cases h1 : tableB xs <;> cases h2 : goodN N d <;> simp
  by_cases h3 : 0 ≤ i ∧ i < xs.length
  · rw [if_pos h3]; simp; omega
  · rw [if_neg h3]; simp; omega

set_option maxHeartbeats 2000000 in
set_option maxRecDepth 20000 in
theorem sLetter_any (a : Option Addr) (b o c : Nat) (xs : List ByteArray) (N d i : Int) (w : World) (h : ListIn w a b o xs) :
    Calls Try.prog 64 #[.agg #[.slice a xs.length c], .agg #[.int .i64 N, .int .i64 d], .int .i64 i] w fun e w' => e = .returned (.bool (ltrB N d xs i)) ∧ Below w.heap.size w w' := by
  have hl := h.len
  have HC := Lib.hid (carT_new w a b o c xs N d h)
  have F1 := Lib.hid fun W h => stable_any a b o c xs W h
  have F2 := Lib.hid fun W => sGood_any N d W
  have F3 := Lib.hid fun W => in_any i 0 ((xs.length : Int) - 1) W
  have l1 := HC.out.tab
  have l2 := load_noi HC.out.noi
  clear h
  cases ht : tableB xs with
  | false =>
    have HR : Hid (ltrB N d xs i = false) := Lib.hid (by unfold ltrB; rw [ht]; rfl)
    have F1 := Lib.hid fun W h => val_eqF (v' := .bool false) (F1.out W h) (by rw [ht])
    rw [HR.out]
    clear ht
    go_enter Try.func64, Try.ntmps64
    go_wp2_with fail
    refine (F1.out _ HC.out.lst).mono ?_
    rintro e w1 ⟨rfl, hb⟩
    have HC1 := Lib.hid (HC.out.step hb)
    clear hb l1 l2
    go_wp2
    go_ret
    exact ⟨rfl, HC1.out.below⟩
  | true =>
    have F1 := Lib.hid fun W h => val_eqF (v' := .bool true) (F1.out W h) (by rw [ht])
    cases hg : goodN N d with
    | false =>
      have HR : Hid (ltrB N d xs i = false) := Lib.hid (by unfold ltrB; rw [hg, Bool.and_false]; rfl)
      rw [hg] at F2
      rw [HR.out]
      clear ht hg
      go_enter Try.func64, Try.ntmps64
      go_wp2_with fail
      refine (F1.out _ HC.out.lst).mono ?_
      rintro e w1 ⟨rfl, hb⟩
      have HC1 := Lib.hid (HC.out.step hb)
      have k0 := HC1.out.noi.cell0
      have k1 := HC1.out.noi.cell1
      clear hb l1 l2
      go_wp2_with fail
      refine (F2.out _).mono ?_
      rintro e w2 ⟨rfl, hb⟩
      have HC2 := Lib.hid (HC1.out.step hb)
      clear hb k0 k1
      go_wp2
      go_ret
      exact ⟨rfl, HC2.out.below⟩
    | true =>
      have HR : Hid (ltrB N d xs i = (decide (0 ≤ i) && decide (i ≤ (xs.length : Int) - 1))) := Lib.hid (by unfold ltrB; rw [ht, hg, Bool.true_and, Bool.true_and])
      rw [hg] at F2
      rw [HR.out]
      generalize (decide (0 ≤ i) && decide (i ≤ (xs.length : Int) - 1)) = r at F3 ⊢
      clear ht hg
      go_enter Try.func64, Try.ntmps64
      go_wp2_with fail
      refine (F1.out _ HC.out.lst).mono ?_
      rintro e w1 ⟨rfl, hb⟩
      have HC1 := Lib.hid (HC.out.step hb)
      have k0 := HC1.out.noi.cell0
      have k1 := HC1.out.noi.cell1
      clear hb l1 l2
      go_wp2_with fail
      refine (F2.out _).mono ?_
      rintro e w2 ⟨rfl, hb⟩
      have HC2 := Lib.hid (HC1.out.step hb)
      have k2 := HC2.out.tab
      clear hb k0 k1
      go_wp2_with fail
      refine (F3.out _).mono ?_
      rintro e w3 ⟨rfl, hww⟩
      obtain rfl := hww.symm
      go_wp2
      go_ret
      exact ⟨rfl, HC2.out.below⟩
end Go.Proofs.Ytomhjfjfmjacfaa
