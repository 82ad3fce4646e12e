/-
  The unit of a line: greatestDivisor, unitOf, withoutEnds of the program. Used by the claims on chapter 4.
-/
import Derived.Test.YtijhfmjkiijhiaaDoorRunW
import Derived.Test.YtijhfmjkiijhiaaDoorTwoW
import Derived.Test.YtijhfmjkiijhiaaDoorLineX
namespace Go.Proofs.YtijhfmjkiijhiaaDoor
open Go.RowKit
set_option linter.unusedVariables false

set_option maxHeartbeats 1000000 in
theorem gcd_any (a b : Nat) (w : World) (ha : a ≤ 1048576) (hb : b ≤ 1048576) :
    Calls Tryd.prog 96 #[.int .i64 a, .int .i64 b] w fun e w' => e = .returned (.int .i64 ((Nat.gcd a b : Nat) : Int)) ∧ Below w.heap.size w w' := by
  go_enter Tryd.func96, Tryd.ntmps96
  go_wp2
  go_loopw [0, 1] (fun x y wr => ∃ (m n : Nat), x = .int .i64 m ∧ y = .int .i64 n ∧ m ≤ 1048576 ∧ n ≤ 1048576 ∧ Hid (Nat.gcd m n = Nat.gcd a b) ∧ Hid (Below w.heap.size w wr)) (fun _ y _ => (intOf y).toNat)
  case atStart => exact ⟨a, b, rfl, rfl, ha, hb, Lib.hid rfl, Lib.hid (Below.refl _ _)⟩
  case round =>
    obtain ⟨m, n, rfl, rfl, hm, hn, HG, HB⟩ := hrel
    rcases Nat.eq_zero_or_pos n with h0 | h0
    · have HE : Hid (Nat.gcd a b = m) := Lib.hid (by rw [← HG.out, h0, Nat.gcd_zero_right])
      have t1 : ((n : Int) == 0) = true := by simp; omega
      have t2 : ((n : Int) != 0) = false := by simp; omega
      clear h0
      go_wp2
      go_ret
      exact ⟨by rw [HE.out]; rfl, HB.out⟩
    · have t1 : ((n : Int) == 0) = false := by simp; omega
      have t2 : ((n : Int) != 0) = true := by simp; omega
      have t3 : ¬ (n : Int) = 0 := by omega
      have t4 : Int.tmod (m : Int) (n : Int) = ((m % n : Nat) : Int) := by rw [Int.tmod_eq_emod_of_nonneg (by omega)]; rfl
      have hlt : m % n < n := Nat.mod_lt _ h0
      have HN : Hid (Nat.gcd n (m % n) = Nat.gcd a b) := Lib.hid (by rw [← HG.out, Nat.gcd_comm m n, Nat.gcd_rec n m, Nat.gcd_comm])
      generalize m % n = r at t4 hlt HN
      have t5 : wrap64 (r : Int) = (r : Int) := IntWalk.wrap64_in _ (by omega)
      have t6 : IntKind.i64.wrap (r : Int) = (r : Int) := by rw [IntKind.wrap_i64]; omega
      go_wp2
      go_region
      go_wp2
      go_roundw
      case rel => exact ⟨n, r, rfl, rfl, hn, by omega, HN, Lib.hid (HB.out.trans ⟨rfl, rfl, rfl, Nat.le_refl _, fun _ _ => rfl⟩)⟩
      case measure => simp [intOf]; omega

theorem rs_at {rs : Rs} {k : Nat} (h : k < rs.length) : rs.getD k (0, 0) = rs[k] := by rw [List.getD_eq_getElem?_getD, List.getElem?_eq_getElem h]; rfl
/-- The greatest length of a run of a text. -/
theorem runs_max (s : ByteArray) (hs : s.size ≤ 1048576) (hbt : ∀ c ∈ bl s, c = 48 ∨ c = 49) : ∀ p ∈ runsL (bl s), p.2 ≤ 1048576 := fun p hp => by
  have := spell_max (runsL (bl s)) p hp
  rw [(runsL_good hbt).2, bl_len] at this
  omega
set_option maxHeartbeats 4000000 in
set_option maxRecDepth 8000 in
theorem unitOf_any (s : ByteArray) (w : World) (hs : s.size ≤ 1048576) (hbt : ∀ c ∈ bl s, c = 48 ∨ c = 49) :
    Calls Tryd.prog 70 #[.string s] w fun e w' => e = .returned (.int .i64 ((unitL (runsL (bl s)) : Nat) : Int)) ∧ Below w.heap.size w w' := by
  have F := Lib.hid fun w => runsOf_any s w hs hbt
  have HM := Lib.hid (runs_max s hs hbt)
  have hln : (runsL (bl s)).length ≤ 1048576 := Nat.le_trans (runsTo_le _ _) (by rw [bl_len]; exact hs)
  generalize runsL (bl s) = rs at F HM hln
  clear hbt
  go_enter Tryd.func70, Tryd.ntmps70
  go_wp2_with fail
  refine (F.out _).mono ?_
  rintro e w1 ⟨⟨g, c, rfl, hsv, _, _, _⟩, hb⟩
  have HS := Lib.hid fun W hb => hsv.below (w' := W) hb
  have HB1 := Lib.hid hb
  clear hsv hb F
  go_wp2
  go_loopw [3, 9] (fun uv v wr => ∃ (k u : Nat), v = .int .i64 k ∧ k ≤ rs.length ∧ uv = .int .i64 u ∧ u ≤ 1048576 ∧ Hid (u = unitTo rs k) ∧ Hid (Below w1.heap.size w1 wr)) (fun _ v _ => rs.length - (intOf v).toNat)
  case atStart => exact ⟨0, 0, rfl, Nat.zero_le _, rfl, Nat.zero_le _, Lib.hid rfl, Lib.hid (Below.refl _ _)⟩
  case round =>
    obtain ⟨k, u, rfl, hk, rfl, hu, HU, HB⟩ := hrel
    by_cases hlt : k < rs.length
    · have hp0 : 0 < (prs rs).length := by rw [prs_len]; omega
      have d1 := (HS.out wr HB.out).2 _ _ (prs_at hlt).1
      have d2 := (HS.out wr HB.out).2 _ _ (prs_at hlt).2
      have HN : Hid (Nat.gcd u (rs[k]).2 = unitTo rs (k + 1)) := Lib.hid (by rw [HU.out]; show _ = Nat.gcd (unitTo rs k) (rs.getD k (0, 0)).2; rw [rs_at hlt])
      have hy : (rs[k]).2 ≤ 1048576 := HM.out _ (List.getElem_mem hlt)
      have hu2 : Nat.gcd u (rs[k]).2 ≤ 1048576 := by
        rcases Nat.eq_zero_or_pos u with e | e
        · subst e; simpa using hy
        · exact Nat.le_trans (Nat.le_of_dvd e (Nat.gcd_dvd_left _ _)) hu
      generalize (rs[k]).1 = x at d1
      generalize (rs[k]).2 = y at d2 HN hy hu2
      have HG := Lib.hid fun w => gcd_any u y w hu hy
      have i0 : (0 : Int) ≤ (k : Int) := by omega
      have i1 : (k : Int) < (rs.length : Int) := by omega
      have e2 : k * 2 = 2 * k := Nat.mul_comm _ _
      rw [← e2] at d1 d2
      clear e2 hp0
      generalize Nat.gcd u y = z at HG HN hu2
      have hT := two_new wr (x : Int) (y : Int)
      have hTc := hT.cell1
      go_wp2_with fail
      refine (HG.out _).mono ?_
      rintro e w5 ⟨rfl, hb5⟩
      have HB5 : Hid (Below w1.heap.size w1 w5) := Lib.hid ((HB.out.alloc HB.out.size _).trans (hb5.mono (by have := HB.out.size; simp; omega)))
      clear hb5
      go_wp2
      go_roundw
      case rel => exact ⟨k + 1, z, by go_num, by omega, rfl, hu2, Lib.hid HN.out, HB5⟩
      case measure => simp [intOf]; omega
    · have HE : Hid (unitL rs = u) := Lib.hid (by rw [HU.out, unitL]; congr 1; omega)
      go_wp2
      go_ret
      exact ⟨by rw [HE.out]; rfl, HB1.out.trans (HB.out.mono HB1.out.size)⟩
theorem withoutEnds_any (s : ByteArray) (w : World) (hs : s.size ≤ 1048576) :
    Calls Tryd.prog 71 #[.string s] w fun e w' => e = .returned (.string ⟨(trimL (bl s)).toArray⟩) ∧ Below w.heap.size w w' := by
  have HT : Hid (∀ w, Calls Tryd.prog 53 #[.string s, .string ⟨#[48]⟩] w fun e w' => e = .returned (.string ⟨(trimL (bl s)).toArray⟩) ∧ Below w.heap.size w w') := Lib.hid fun w => trim_any s ⟨#[48]⟩ w hs (by decide) (by decide)
  generalize trimL (bl s) = l at HT ⊢
  go_enter Tryd.func71, Tryd.ntmps71
  go_wp2_with fail
  refine (HT.out _).mono ?_
  rintro e w' ⟨rfl, hb⟩
  have HB := Lib.hid hb
  clear hb
  go_wp2
  go_ret
  exact ⟨rfl, HB.out⟩
end Go.Proofs.YtijhfmjkiijhiaaDoor
