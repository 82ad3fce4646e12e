/-
  The nodes above a node: upwards tells them; textOf joins their last marks; MarksOfNode of the program and the model. Used by the claims on chapter 9.
-/
import Derived.Test.YtdphjnbelggcfaaRfW
import Derived.Test.YtdphjnbelggcfaaNodW
namespace Go.Proofs.Ytdphjnbelggcfaa
open Go.RowKit Go.Shelf
set_option linter.unusedVariables false

attribute [local go_sem] Oper.semAt_some

def upsN (n : Nat) : List Nat := if _h : n ≤ 1 then [] else n :: upsN (n / 2)
  termination_by n
  decreasing_by omega
theorem upsN_one {n : Nat} (h : n ≤ 1) : upsN n = [] := by rw [upsN, dif_pos h]
theorem upsN_more {n : Nat} (h : ¬ n ≤ 1) : upsN n = n :: upsN (n / 2) := by rw [upsN, dif_neg h]
theorem upsN_le (n : Nat) : ∀ x ∈ upsN n, 2 ≤ x ∧ x ≤ n := by
  induction n using Nat.strongRecOn with
  | ind n ih =>
    by_cases h : n ≤ 1
    · rw [upsN_one h]; simp
    · rw [upsN_more h]
      intro x hx
      rcases List.mem_cons.1 hx with rfl | hx
      · omega
      · have := ih (n / 2) (by omega) x hx; omega
/-- The text of the nodes that have come. -/
def upT (pre : List Nat) : Bs := (pre.map lastMk).reverse
theorem upT_snoc (pre : List Nat) (x : Nat) : upT (pre ++ [x]) = lastMk x :: upT pre := by simp [upT]
theorem upT_ups (n : Nat) : upT (upsN n) = txN n := by
  induction n using Nat.strongRecOn with
  | ind n ih =>
    by_cases h : n ≤ 1
    · rw [upsN_one h, txN_one h]; rfl
    · rw [upsN_more h, txN_more h, ← ih (n / 2) (by omega)]
      simp [upT]
theorem upsN_len (n : Nat) (k : Nat) (h : n < 2 ^ (k + 1)) : (upsN n).length ≤ k := by
  have := txN_len n k h
  rw [← upT_ups] at this
  simpa [upT] using this

theorem up_in (F : Fence) (n : Nat) (hf : F.fn 125) (hro : F.round = none) (m : Nat) (hm : m ≤ 63) (w : World) :
    CallsIn F n Try.prog 125 #[.int .i64 (m : Int)] w fun e w' => e = .returned (.int .i64 ((m / 2 : Nat) : Int)) ∧ w' = w := by
  refine callsIn_of_wp Try.func125 rfl hf ?_ hro
  simp only [Try.ntmps125, List.size_toArray, List.length_cons, List.length_nil, Nat.reduceAdd, Nat.reduceSub, Array.replicate_succ, Array.replicate_zero, List.push_toArray, List.append_toArray, List.nil_append, List.cons_append]
  gi_wp2
  refine bodyPost_ret (results_tmp rfl _ _ _) rfl ?_
  exact ⟨by first | rfl | (congr 1), rfl⟩

set_option maxRecDepth 100000 in
set_option maxHeartbeats 2000000 in
theorem upwards_tells (F : Fence) (n : Nat) (h1 : F.fn 118) (h2 : F.fn 125) (hro : F.round = none) (hn : 1 ≤ n) (m : Nat) (hm : m ≤ 63) (w : World) :
    TellsAll F n Try.prog 118 (.int .i64 (m : Int)) (fun x : Nat => .int .i64 (x : Int)) (upsN m) w := by
  intro l J W hW hY h0
  refine callsIn_of_wp Try.func118 rfl h1 ?_ hro
  simp only [Try.ntmps118, List.size_toArray, List.length_cons, List.length_nil, Nat.reduceAdd, Nat.reduceSub, Array.replicate_succ, Array.replicate_zero, List.push_toArray, List.append_toArray, List.nil_append, List.cons_append]
  have HY := Lib.hid hY
  have H0 := Lib.hid h0
  clear hY h0 hW
  gi_wp2
  gi_loopw [0] (fun v wr => ∃ (k : Nat) (pre : List Nat), v = .int .i64 (k : Int) ∧ k ≤ 63 ∧ Hid (pre ++ upsN k = upsN m) ∧ Hid (J pre wr)) (fun v _ => (intOf v).toNat)
  case atStart => exact ⟨m, [], rfl, hm, Lib.hid rfl, H0⟩
  case round =>
    obtain ⟨k, pre, rfl, hk, HP, HJ⟩ := hrel
    by_cases hlt : 1 < k
    · have hups := upsN_more (n := k) (by omega)
      have HP2 : Hid ((pre ++ [k]) ++ upsN (k / 2) = upsN m) := Lib.hid (by rw [← HP.out, hups]; simp)
      obtain ⟨fn, tmps, assign, body, hy, hR⟩ := HY.out pre k wr HJ.out ⟨upsN (k / 2), by rw [← HP.out, hups]; simp⟩
      clear hups
      gi_wp2
      refine hR.mono ?_
      rintro e W3 ⟨rfl, hJ3⟩
      have HJ3 := Lib.hid hJ3
      clear hJ3 hR hy
      gi_wp2_with (gi_at_call 125; refine (up_in F (n - 1) h2 hro k hk _).mono ?_; rintro e w' ⟨rfl, rfl⟩)
      go_roundw
      case rel => exact ⟨k / 2, pre ++ [k], by first | rfl | go_num, by omega, HP2, HJ3⟩
      case measure => simp [intOf]; omega
    · have HE : Hid (pre = upsN m) := Lib.hid (by have := HP.out; rwa [upsN_one (by omega), List.append_nil] at this)
      gi_wp2
      go_end0
      exact ⟨⟨_, rfl⟩, by rw [← HE.out]; exact HJ.out⟩
end Go.Proofs.Ytdphjnbelggcfaa
