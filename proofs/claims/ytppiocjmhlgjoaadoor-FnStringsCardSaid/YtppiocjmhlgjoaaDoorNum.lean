/-
  Contracts of the model's l1Num: at each number from -999999 to 999999 it returns the decimal numeral; it only reads. Used by the claims on FormatInt, ParseInt and checksums.
-/
import Derived.Test.YtppiocjmhlgjoaaDoorRows
import Derived.WalkKit
import Derived.WalkSpells
import Derived.Handy
import Derived.Lib.Hide
import Derived.Lib.ItoaNum
import Derived.Deep.QuietTactic
import Derived.BigQuiet
import Derived.IntWalk
namespace Go.Proofs.YtppiocjmhlgjoaaDoor
open Go.RowKit

theorem digit_cut (n : Nat) (h : n < 10) : (⟨#[48, 49, 50, 51, 52, 53, 54, 55, 56, 57]⟩ : ByteArray).extract n (n + 1) = ⟨#[UInt8.ofNat (48 + n)]⟩ := by
  have : n = 0 ∨ n = 1 ∨ n = 2 ∨ n = 3 ∨ n = 4 ∨ n = 5 ∨ n = 6 ∨ n = 7 ∨ n = 8 ∨ n = 9 := by omega
  rcases this with rfl | rfl | rfl | rfl | rfl | rfl | rfl | rfl | rfl | rfl <;> decide
theorem dec_small {n : Nat} (h : n < 10) : Lib.decDigits n = [UInt8.ofNat (48 + n)] := by rw [Lib.decDigits, dif_pos h]
theorem dec_big {n : Nat} (h : ¬ n < 10) : Lib.decDigits n = Lib.decDigits (n / 10) ++ [UInt8.ofNat (48 + n % 10)] := by rw [Lib.decDigits, dif_neg h]
theorem str_app (a b : List UInt8) : (⟨a.toArray⟩ : ByteArray) ++ ⟨b.toArray⟩ = ⟨(a ++ b).toArray⟩ := by
  apply ByteArray.ext; simp
theorem dec_len (k : Nat) : ∀ u : Nat, u < 10 ^ (k + 1) → (Lib.decDigits u).length ≤ k + 1 := by
  induction k with
  | zero => intro u h; rw [dec_small (by simpa using h)]; simp
  | succ k ih =>
    intro u h
    by_cases hu : u < 10
    · rw [dec_small hu]; simp
    · rw [dec_big hu]
      have := ih (u / 10) (by rw [Nat.pow_succ] at h; omega)
      simp; omega
theorem dec_len6 {u : Nat} (h : u ≤ 999999) : (Lib.decDigits u).length ≤ 6 := dec_len 5 u (by omega)
theorem num_small (n : Nat) (h : n < 10) (w : World) :
    Calls Tryd.prog 25 #[.int .i64 n] w fun e w' => e = .returned (.string ⟨(Lib.decDigits n).toArray⟩) ∧ w' = w := by
  have HD : Hid ((⟨#[48, 49, 50, 51, 52, 53, 54, 55, 56, 57]⟩ : ByteArray).extract n (n + 1) = ⟨(Lib.decDigits n).toArray⟩) := by
    rw [digit_cut n h, dec_small h]; exact rfl
  go_enter Tryd.func25, Tryd.ntmps25
  go_wp2
  rw [HD.out]
  go_ret
  exact ⟨rfl, rfl⟩

theorem num_big (n : Nat) (h : 10 ≤ n) (hn : n ≤ 999999) (ih : ∀ w, Calls Tryd.prog 25 #[.int .i64 ((n : Int) / 10)] w fun e w' => e = .returned (.string ⟨(Lib.decDigits (n / 10)).toArray⟩) ∧ ∃ k, w' = w.drewN k) (w : World) :
    Calls Tryd.prog 25 #[.int .i64 n] w fun e w' => e = .returned (.string ⟨(Lib.decDigits n).toArray⟩) ∧ ∃ k, w' = w.drewN k := by
  have IH := Lib.hid ih
  clear ih
  have HS : Hid ((⟨(Lib.decDigits (n / 10)).toArray⟩ : ByteArray) ++ (⟨#[48, 49, 50, 51, 52, 53, 54, 55, 56, 57]⟩ : ByteArray).extract (n % 10) (n % 10 + 1) = ⟨(Lib.decDigits n).toArray⟩) := by
    rw [digit_cut (n % 10) (by omega), dec_big (by omega : ¬ n < 10)]; exact str_app _ [UInt8.ofNat (48 + n % 10)]
  go_enter Tryd.func25, Tryd.ntmps25
  go_wp2
  have m0 : (0 : Int) ≤ (n : Int) % 10 := by omega
  have m1 : (n : Int) % 10 < 10 := by omega
  have d1 : Int.tdiv (n : Int) 10 = (n : Int) / 10 := Int.tdiv_eq_ediv_of_nonneg (by omega)
  have d2 : Int.tmod (n : Int) 10 = (n : Int) % 10 := Int.tmod_eq_emod_of_nonneg (by omega)
  have d3 : IntKind.i64.wrap ((n : Int) % 10 + 1) = (n : Int) % 10 + 1 := IntWalk.i64_in _ (by omega)
  have d6 : IntKind.i64.wrap ((n : Int) / 10) = (n : Int) / 10 := IntWalk.i64_in _ (by omega)
  have d7 : wrap64 ((n : Int) / 10) = (n : Int) / 10 := IntWalk.wrap64_in _ (by omega)
  have d4 : ((n : Int) % 10 + 1).toNat = n % 10 + 1 := by omega
  have d5 : ((n : Int) % 10).toNat = n % 10 := by omega
  have d8 : (0 : Int) ≤ (n : Int) % 10 + 1 := by omega
  have d9 : (n : Int) % 10 + 1 ≤ 10 := by omega
  have d10 : (n : Int) % 10 ≤ (n : Int) % 10 + 1 := by omega
  have d11 : ¬ 9223372036854775807 < (Lib.decDigits (n / 10)).length + (min (n % 10 + 1) 10 - n % 10) := by
    have := dec_len6 (u := n / 10) (by omega)
    omega
  clear hn h
  go_quiet ((go_at_call 25; exact Calls.quiet_of (IH.out _)))
  go_wp2
  rw [HS.out]
  go_ret
  exact ⟨rfl, _, rfl⟩

theorem num_nat (n : Nat) (hn : n ≤ 999999) (w : World) :
    Calls Tryd.prog 25 #[.int .i64 n] w fun e w' => e = .returned (.string ⟨(Lib.decDigits n).toArray⟩) ∧ ∃ k, w' = w.drewN k := by
  induction n using Nat.strongRecOn generalizing w with
  | ind n ih =>
    by_cases h : n < 10
    · exact (num_small n h w).mono fun e w' ⟨he, hw⟩ => ⟨he, 0, hw⟩
    · refine num_big n (by omega) hn (fun W => ?_) w
      have := ih (n / 10) (by omega) (by omega) W
      have e : ((n / 10 : Nat) : Int) = (n : Int) / 10 := by omega
      rw [e] at this
      exact this

/-- A text that is a sign and digits. -/
theorem neg_small (n : Nat) (h0 : 1 ≤ n) (h : n < 10) (w : World) :
    Calls Tryd.prog 25 #[.int .i64 (-(n : Int))] w fun e w' => e = .returned (.string ⟨(45 :: Lib.decDigits n).toArray⟩) ∧ w' = w := by
  have HS : Hid ((⟨#[45]⟩ : ByteArray) ++ ⟨(Lib.decDigits n).toArray⟩ = ⟨(45 :: Lib.decDigits n).toArray⟩) := str_app [45] _
  have b1 : -(n : Int) < 0 := by omega
  have b2 : -10 < -(n : Int) := by omega
  have b3 : ¬ 9223372036854775807 < 1 + (Lib.decDigits n).length := by
    have := dec_len6 (u := n) (by omega)
    omega
  go_enter Tryd.func25, Tryd.ntmps25
  go_wp2_with (go_at_call 25; refine (num_small n h _).mono ?_; rintro e w' ⟨rfl, rfl⟩)
  rw [HS.out]
  go_ret
  exact ⟨rfl, rfl⟩
theorem neg_big (n : Nat) (h0 : 10 ≤ n) (h : n ≤ 999999) (ih : ∀ w, Calls Tryd.prog 25 #[.int .i64 (-((n : Int) / 10))] w fun e w' => e = .returned (.string ⟨(45 :: Lib.decDigits (n / 10)).toArray⟩) ∧ ∃ k, w' = w.drewN k) (w : World) :
    Calls Tryd.prog 25 #[.int .i64 (-(n : Int))] w fun e w' => e = .returned (.string ⟨(45 :: Lib.decDigits n).toArray⟩) ∧ ∃ k, w' = w.drewN k := by
  have c2 : ∀ w, Calls Tryd.prog 25 #[.int .i64 ((n : Int) % 10)] w fun e w' => e = .returned (.string ⟨(Lib.decDigits (n % 10)).toArray⟩) ∧ w' = w := by
    intro w
    have := num_small (n % 10) (by omega) w
    have e : ((n % 10 : Nat) : Int) = (n : Int) % 10 := by omega
    rw [e] at this
    exact this
  have C2 := Lib.hid c2
  have IH := Lib.hid ih
  clear c2 ih
  have HS : Hid ((⟨(45 :: Lib.decDigits (n / 10)).toArray⟩ : ByteArray) ++ ⟨(Lib.decDigits (n % 10)).toArray⟩ = ⟨(45 :: Lib.decDigits n).toArray⟩) := by
    rw [dec_big (by omega : ¬ n < 10), dec_small (by omega : n % 10 < 10)]
    exact str_app (45 :: Lib.decDigits (n / 10)) _
  have b1 : -(n : Int) < 0 := by omega
  have b2 : ¬ -10 < -(n : Int) := by omega
  have b3 : ¬ 9223372036854775807 < (Lib.decDigits (n / 10)).length + 1 + (Lib.decDigits (n % 10)).length := by
    have := dec_len6 (u := n / 10) (by omega)
    have := dec_len6 (u := n % 10) (by omega)
    omega
  go_enter Tryd.func25, Tryd.ntmps25
  go_wp2_with fail
  refine (IH.out _).mono ?_
  rintro e w' ⟨rfl, k, rfl⟩
  go_wp2_with fail
  refine (C2.out _).mono ?_
  rintro e w' ⟨rfl, rfl⟩
  go_wp2
  rw [HS.out]
  go_ret
  exact ⟨rfl, _, rfl⟩

theorem num_neg (n : Nat) (h1 : 1 ≤ n) (hn : n ≤ 999999) (w : World) :
    Calls Tryd.prog 25 #[.int .i64 (-(n : Int))] w fun e w' => e = .returned (.string ⟨(45 :: Lib.decDigits n).toArray⟩) ∧ ∃ k, w' = w.drewN k := by
  induction n using Nat.strongRecOn generalizing w with
  | ind n ih =>
    by_cases h : n < 10
    · exact (neg_small n h1 h w).mono fun e w' ⟨he, hw⟩ => ⟨he, 0, hw⟩
    · refine neg_big n (by omega) hn (fun W => ?_) w
      have := ih (n / 10) (by omega) (by omega) (by omega) W
      have e : ((n / 10 : Nat) : Int) = (n : Int) / 10 := by omega
      rw [e] at this
      exact this

/-- ████ l1Num at every number that FormatInt takes: the decimal numeral. -/
theorem l1Num_any (n : Int) (h0 : -999999 ≤ n) (h1 : n ≤ 999999) (w : World) :
    Calls Tryd.prog 25 #[.int .i64 n] w fun e w' => e = .returned (.string ⟨(Lib.itoa n).toArray⟩) ∧ ∃ k, w' = w.drewN k := by
  by_cases h : n < 0
  · obtain ⟨m, rfl⟩ : ∃ m : Nat, n = -(m : Int) := ⟨n.natAbs, by omega⟩
    have e : Lib.itoa (-(m : Int)) = 45 :: Lib.decDigits m := by
      unfold Lib.itoa; rw [if_pos h]; congr 2; omega
    rw [e]
    exact num_neg m (by omega) (by omega) w
  · obtain ⟨m, rfl⟩ : ∃ m : Nat, n = (m : Int) := ⟨n.toNat, by omega⟩
    have e : Lib.itoa (m : Int) = Lib.decDigits m := by
      unfold Lib.itoa; rw [if_neg h]; congr 1
    rw [e]
    exact num_nat m (by omega) w
end Go.Proofs.YtppiocjmhlgjoaaDoor
