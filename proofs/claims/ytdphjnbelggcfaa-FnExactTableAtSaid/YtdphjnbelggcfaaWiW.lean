/-
  isWithin: no letter of a Table has more marks than so many. Used by the claims on chapter 9.
-/
import Derived.Test.YtdphjnbelggcfaaDcW
import Derived.Test.YtdphjnbelggcfaaCtW
import Derived.Lib.SliceRun
namespace Go.Proofs.Ytdphjnbelggcfaa
open Go.RowKit Go.Maps Go.WideMaps
set_option linter.unusedVariables false

theorem Six.clear {g : Nat} (n : Nat) : ∀ (o : Nat) (w : World) (f : Nat → Int), Six w g f → o + n ≤ 6 → Six (w.setCells g o (List.replicate n (.int .i64 0))) g (fun j => if o ≤ j ∧ j < o + n then 0 else f j) := by
  induction n with
  | zero => intro o w f h _; exact h.congr fun j _ => by rw [if_neg (by omega)]
  | succ n ih =>
    intro o w f h ho
    rw [List.replicate_succ]
    exact (ih (o + 1) _ _ (h.set o (by omega) 0) (by omega)).congr fun j _ => by
      by_cases h1 : o + 1 ≤ j ∧ j < o + 1 + n
      · rw [if_pos h1, if_pos (by omega)]
      · rw [if_neg h1]
        by_cases h2 : j = o
        · rw [if_pos h2, if_pos (by omega)]
        · rw [if_neg h2, if_neg (by omega)]
theorem below_clear {m g : Nat} (hg : m ≤ g) (n : Nat) : ∀ (o : Nat) (w W : World), Below m w W → Below m w (W.setCells g o (List.replicate n (.int .i64 0))) := by
  induction n with
  | zero => intro o w W h; exact h
  | succ n ih =>
    intro o w W h
    rw [List.replicate_succ]
    exact ih (o + 1) w _ (h.setCell (p := ⟨g, o, none⟩) hg _)
set_option maxHeartbeats 1000000 in
theorem eqSix (a0 a1 a2 a3 a4 a5 : Int) (w : World) : (Op.equalIn 10000 49 (.agg #[.int .i64 a0, .int .i64 a1, .int .i64 a2, .int .i64 a3, .int .i64 a4, .int .i64 a5]) (.agg #[.int .i64 0, .int .i64 0, .int .i64 0, .int .i64 0, .int .i64 0, .int .i64 0])).run Try.prog w = .ok (a0 == 0 && (a1 == 0 && (a2 == 0 && (a3 == 0 && (a4 == 0 && a5 == 0))))) w := by
  have u3 := Try.underlying3
  have a3' := Try.isAgg3
  have z3 := Try.sizeOf3
  rw [show (10000 : Nat) = 9999 + 1 from rfl, Op.equalIn]
  simp only [Sem.run_bind, run_underlying Try.underlying49, Result.andThen_ok]
  simp only [Std.Legacy.Range.forIn_eq_forIn_range', Std.Legacy.Range.size, Nat.sub_zero, Nat.add_sub_cancel, Nat.div_one, List.range'_succ, List.range'_zero, List.forIn_cons, List.forIn_nil]
  go_simp
  by_cases h0 : a0 = 0
  · by_cases h1 : a1 = 0
    · by_cases h2 : a2 = 0
      · by_cases h3 : a3 = 0
        · by_cases h4 : a4 = 0
          · by_cases h5 : a5 = 0 <;> simp [h0, h1, h2, h3, h4, h5]
          · simp [h0, h1, h2, h3, h4]
        · simp [h0, h1, h2, h3]
      · simp [h0, h1, h2]
    · simp [h0, h1]
  · simp [h0]
def withinB (xs : List ByteArray) (m : Nat) : Bool := xs.all fun x => decide (x.size ≤ m)
theorem dcZ_zero (xs : List ByteArray) (j : Nat) : dcZ xs xs.length j = 0 ↔ ∀ x ∈ xs, x.size ≠ j := by
  unfold dcZ dcN
  rw [List.take_length]
  constructor
  · intro h x hx e
    have : xs.countP (fun x => x.size == j) = 0 := by omega
    rw [List.countP_eq_zero] at this
    exact this x hx (by simpa using e)
  · intro h
    have : xs.countP (fun x => x.size == j) = 0 := by
      rw [List.countP_eq_zero]
      intro x hx e
      exact h x hx (by simpa using e)
    omega
theorem within_eq {xs : List ByteArray} (h5 : ∀ x ∈ xs, 1 ≤ x.size ∧ x.size ≤ 5) (m : Nat) (f : Nat → Int) (hf : ∀ j, f j = if 0 ≤ j ∧ j < 0 + (m + 1) then 0 else dcZ xs xs.length j) :
    (f 0 == 0 && (f 1 == 0 && (f 2 == 0 && (f 3 == 0 && (f 4 == 0 && f 5 == 0))))) = withinB xs m := by
  rw [Bool.eq_iff_iff]
  simp only [Bool.and_eq_true, beq_iff_eq, withinB, List.all_eq_true, decide_eq_true_eq]
  have key : ∀ j, f j = 0 ↔ (m < j → ∀ x ∈ xs, x.size ≠ j) := fun j => by
    rw [hf]
    by_cases h : 0 ≤ j ∧ j < 0 + (m + 1)
    · rw [if_pos h]; exact ⟨fun _ h2 => by omega, fun _ => rfl⟩
    · rw [if_neg h, dcZ_zero]; exact ⟨fun h2 _ => h2, fun h2 => h2 (by omega)⟩
  simp only [key]
  constructor
  · rintro ⟨k0, k1, k2, k3, k4, k5⟩ x hx
    have := h5 x hx
    rcases Nat.lt_or_ge m x.size with h | h
    · exfalso
      rcases (show x.size = 1 ∨ x.size = 2 ∨ x.size = 3 ∨ x.size = 4 ∨ x.size = 5 by omega) with e | e | e | e | e
      · exact k1 (by omega) x hx e
      · exact k2 (by omega) x hx e
      · exact k3 (by omega) x hx e
      · exact k4 (by omega) x hx e
      · exact k5 (by omega) x hx e
    · exact h
  · intro h
    have q : ∀ j, m < j → ∀ x ∈ xs, x.size ≠ j := fun j hj x hx e => by have := h x hx; omega
    exact ⟨q 0, q 1, q 2, q 3, q 4, q 5⟩

set_option maxHeartbeats 4000000 in
set_option maxRecDepth 8000 in
theorem isWithin_any (a : Option Addr) (b o c : Nat) (xs : List ByteArray) (m : Nat) (w : World) (h : ListIn w a b o xs) (ht : tableB xs = true) (hm : 1 ≤ m ∧ m ≤ 5) :
    Calls Try.prog 104 #[.agg #[.slice a xs.length c], .int .i64 (m : Int)] w fun e w' => e = .returned (.bool (withinB xs m)) ∧ Below w.heap.size w w' := by
  have hl := h.len
  have G := Lib.hid fun W hb => depthCounts_any a b o c xs W (h.below (w' := W) hb) ht
  have HW := Lib.hid (within_eq (size5 ht) m)
  generalize dcZ xs xs.length = f at *
  obtain ⟨m1, m2⟩ := hm
  clear h ht
  go_enter Try.func104, Try.ntmps104
  go_wp2_with fail
  refine (G.out _ (below_alloc _ _)).mono ?_
  rintro e w1 ⟨rfl, hb⟩
  have HB1 := Lib.hid ((below_alloc w (.cells #[.slice a xs.length c] 35)).trans (hb.mono (by simp)))
  have HS := six_new w1 f
  have HBa := Lib.hid (HB1.out.alloc HB1.out.size (.cells (six f) 49))
  have HSz : Hid (w.heap.size ≤ w1.heap.size) := Lib.hid HB1.out.size
  obtain ⟨W2, hW2⟩ : ∃ W2, W2 = w1.alloc (.cells (six f) 49) := ⟨_, rfl⟩
  have HSx := HS
  rw [← hW2] at HSx HBa
  have hcl : ∀ ty, (Builtin.clear_ #[32] ty #[.slice (some ⟨w1.heap.size, 0, none⟩) (m + 1) 6]).run Try.prog W2 = .ok (.tuple #[]) (W2.setCells w1.heap.size 0 (List.replicate (m + 1) (.int .i64 0))) :=
    fun ty => Lib.run_clear_slice W2 _ _ ty _ Try.underlying32 Try.zeroValue3 rfl rfl w1.heap.size 0 _ _ (by omega) (fun t ht => by rw [Nat.zero_add, HSx.cell t (by omega)]; rfl) (fun t ht => by rw [Nat.zero_add]; exact HSx.frozen t)
  have HC := Lib.hid (Six.clear (m + 1) 0 W2 f HSx (by omega))
  have HBc := Lib.hid (below_clear (g := w1.heap.size) HSz.out (m + 1) 0 w W2 HBa.out)
  have hld := load_six HC.out
  obtain ⟨f', hf'⟩ : ∃ f' : Nat → Int, f' = (fun j => if 0 ≤ j ∧ j < 0 + (m + 1) then 0 else f j) := ⟨_, rfl⟩
  have HV := Lib.hid (HW.out f' (fun j => by rw [hf']))
  have HC2 := HC.out
  rw [← hf'] at hld HC2
  obtain ⟨W3, hW3⟩ : ∃ W3, W3 = W2.setCells w1.heap.size 0 (List.replicate (m + 1) (.int .i64 0)) := ⟨_, rfl⟩
  rw [← hW3] at hld hcl HBc HC2
  have k0 := HC2.cell 0 (by omega)
  have k1 := HC2.cell 1 (by omega)
  have k2 := HC2.cell 2 (by omega)
  have k3 := HC2.cell 3 (by omega)
  have k4 := HC2.cell 4 (by omega)
  have k5 := HC2.cell 5 (by omega)
  have q1 := eqSix (f' 0) (f' 1) (f' 2) (f' 3) (f' 4) (f' 5) W3
  rw [HV.out] at q1
  rw [hW2] at hcl
  have i0 : (0 : Int) ≤ (m : Int) + 1 := by omega
  have i1 : (m : Int) + 1 ≤ 6 := by omega
  clear hb HS HSx hW3 hW2 hf' HC HC2
  go_wp2
  go_ret
  exact ⟨rfl, HBc.out⟩
end Go.Proofs.Ytdphjnbelggcfaa
