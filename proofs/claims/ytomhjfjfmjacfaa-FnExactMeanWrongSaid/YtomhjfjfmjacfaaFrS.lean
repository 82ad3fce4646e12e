/-
  Fractions of the model: l7Cut, l7Power, l7Apart, l7Parts, l7All; apartOf of the program. Used by the claims on chapter 7.
-/
import Derived.Test.YtomhjfjfmjacfaaNoiW
namespace Go.Proofs.Ytomhjfjfmjacfaa
open Go.RowKit
set_option linter.unusedVariables false

theorem val_eqF {P : Program} {f : FuncId} {args : Array Value} {w : World} {v v' : Value} {R : World → Prop} (h : Calls P f args w fun e w' => e = .returned v ∧ R w') (e : v = v') : Calls P f args w fun e w' => e = .returned v' ∧ R w' := e ▸ h
theorem mostF_any (x y : Int) (w : World) : Calls Try.prog 92 #[.int .i64 x, .int .i64 y] w fun e w' => e = .returned (.int .i64 (max x y)) ∧ w' = w := by
  by_cases h : y < x
  · have HR : Hid (max x y = x) := Lib.hid (by omega)
    rw [HR.out]
    go_enter Try.func92, Try.ntmps92
    go_wp2
    go_ret
    exact ⟨rfl, rfl⟩
  · have HR : Hid (max x y = y) := Lib.hid (by omega)
    rw [HR.out]
    go_enter Try.func92, Try.ntmps92
    go_wp2
    go_ret
    exact ⟨rfl, rfl⟩

set_option maxHeartbeats 2000000 in
theorem sCut_any (a b : Nat) (w : World) (ha : a ≤ 10000000000000) (hb0 : 0 < b) (hb : b ≤ 10000000000000) :
    Calls Try.prog 58 #[.int .i64 a, .int .i64 b] w fun e w' => e = .returned (.agg #[.int .i64 (((cutN a b).1 : Nat) : Int), .int .i64 (((cutN a b).2 : Nat) : Int)]) ∧ Below w.heap.size w w' := by
  have HB0 := Lib.hid (below_alloc w (.cells #[.int .i64 0, .int .i64 0] 28))
  have HT0 := Lib.hid (two_new w 0 0)
  go_enter Try.func58, Try.ntmps58
  go_wp2
  go_loopw [5, 6] (fun x y wr => ∃ (m n : Nat), x = .int .i64 m ∧ y = .int .i64 n ∧ m ≤ 10000000000000 ∧ n ≤ 10000000000000 ∧ Hid (Nat.gcd m n = Nat.gcd a b) ∧ Hid (Below w.heap.size w wr) ∧ Hid (Two wr w.heap.size 0 0)) (fun _ y _ => (intOf y).toNat)
  case atStart => exact ⟨a, b, rfl, rfl, ha, hb, Lib.hid rfl, HB0, HT0⟩
  case round =>
    obtain ⟨m, n, rfl, rfl, hm, hn, HG, HB, HT⟩ := hrel
    rcases Nat.eq_zero_or_pos n with h0 | h0
    · have HE : Nat.gcd a b = m := by
        have e1 := HG.out
        rw [h0, Nat.gcd_zero_right] at e1
        exact e1.symm
      have hg := gcd_pos (a := a) hb0
      have x1 := cut_le1 a b
      have x2 := cut_le2 a b
      have d1 : Int.tdiv (a : Int) ((Nat.gcd a b : Nat) : Int) = (((cutN a b).1 : Nat) : Int) := tdiv_nat _ _
      have d2 : Int.tdiv (b : Int) ((Nat.gcd a b : Nat) : Int) = (((cutN a b).2 : Nat) : Int) := tdiv_nat _ _
      rw [HE] at d1 d2 hg
      obtain ⟨x, hx⟩ : ∃ x, x = (cutN a b).1 := ⟨_, rfl⟩
      obtain ⟨y, hy⟩ : ∃ y, y = (cutN a b).2 := ⟨_, rfl⟩
      rw [← hx] at d1 x1
      rw [← hy] at d2 x2
      have HV := Lib.hid (And.intro hx hy)
      clear hx hy
      have t0 : ¬ (0 : Int) < (n : Int) := by omega
      have t1 : ((m : Int) == 0) = false := by simp; omega
      have t3 : ¬ (m : Int) = 0 := by omega
      have HM := Lib.hid fun W => val_eqF (mostF_any (m : Int) 1 W) (v' := .int .i64 (m : Int)) (by rw [show max (m : Int) 1 = (m : Int) by omega])
      obtain ⟨m1, m2⟩ := wrap_nat x (by omega)
      obtain ⟨m3, m4⟩ := wrap_nat y (by omega)
      have f0 := HT.out.frozen 0
      have f1 := HT.out.frozen 1
      have c0 := HT.out.cell0
      have c1 := HT.out.cell1
      clear h0 HE hg x1 x2 ha hb0 hb hm hn
      go_wp2
      go_region_with (
        (go_at_call 92; refine (HM.out _).mono ?_; rintro e w' ⟨rfl, hww⟩; obtain rfl := hww.symm))
      all_goals (
        go_wp2
        refine bodyPost_ret (res_twoF rfl _ rfl ((HT.out.set0 _).set1 _)) rfl ?_
        exact ⟨by rw [← HV.out.1, ← HV.out.2], ((HB.out.setCell (p := ⟨w.heap.size, 0, none⟩) (by simp) _).setCell (p := ⟨w.heap.size, 1, none⟩) (by simp) _).drew⟩)
    · have t1 : ((n : Int) == 0) = false := by simp; omega
      have t3 : ¬ (n : Int) = 0 := by omega
      have t0 : (0 : Int) < (n : Int) := by omega
      have t4 : Int.tmod (m : Int) (n : Int) = ((m % n : Nat) : Int) := by rw [Int.tmod_eq_emod_of_nonneg (by omega)]; rfl
      have hlt : m % n < n := Nat.mod_lt _ h0
      have HN : Hid (Nat.gcd n (m % n) = Nat.gcd a b) := Lib.hid (by rw [← HG.out, Nat.gcd_comm m n, Nat.gcd_rec n m, Nat.gcd_comm])
      generalize m % n = r at t4 hlt HN
      have t5 : wrap64 (r : Int) = (r : Int) := IntWalk.wrap64_in _ (by omega)
      have t6 : IntKind.i64.wrap (r : Int) = (r : Int) := by rw [IntKind.wrap_i64]; omega
      have HB2 : Hid (∀ q, Below w.heap.size w (wr.drewN q)) := Lib.hid fun q => HB.out.trans ⟨rfl, rfl, rfl, Nat.le_refl _, fun _ _ => rfl⟩
      have HT2 : Hid (∀ q, Two (wr.drewN q) w.heap.size 0 0) := Lib.hid fun q => HT.out
      go_wp2
      go_quiet (fail)
      go_wp2
      go_roundw
      case rel => exact ⟨n, r, rfl, rfl, hn, by omega, HN, Lib.hid (HB2.out _), Lib.hid (HT2.out _)⟩
      case measure => simp [intOf]; omega

/-! ### Powers, places that differ -/
theorem mul_facts (a b c : Nat) (h : a * b = c) (hc : c ≤ 1000000000000000000) : (a : Int) * (b : Int) = (c : Int) ∧ wrap64 (c : Int) = (c : Int) ∧ IntKind.i64.wrap (c : Int) = (c : Int) :=
  ⟨by rw [← h]; exact (Int.natCast_mul _ _).symm, (wrap_nat c hc).1, (wrap_nat c hc).2⟩
set_option maxHeartbeats 2000000 in
theorem sPower_any (x k : Nat) (w : World) (hx : x ≤ 100) (hk : k ≤ 5) :
    Calls Try.prog 94 #[.int .i64 x, .int .i64 k] w fun e w' => e = .returned (.int .i64 ((x ^ k : Nat) : Int)) ∧ w' = w := by
  have HP : Hid (∀ i, i ≤ 5 → x ^ i ≤ 10000000000) := Lib.hid fun i hi => by
    rcases Nat.eq_zero_or_pos x with h | h
    · subst h
      rcases Nat.eq_zero_or_pos i with e | e
      · subst e; decide
      · rw [Nat.zero_pow e]; omega
    · exact pow_le5 h hx hi
  go_enter Try.func94, Try.ntmps94
  go_wp2
  go_loopw [5, 6] (fun pv v wr => ∃ (i m : Nat), v = .int .i64 i ∧ pv = .int .i64 m ∧ i ≤ k ∧ Hid (m = x ^ i) ∧ wr = w) (fun _ v _ => k - (intOf v).toNat)
  case atStart => exact ⟨0, 1, rfl, rfl, Nat.zero_le _, Lib.hid rfl, rfl⟩
  case round =>
    obtain ⟨i, m, rfl, rfl, hi, HM, rfl⟩ := hrel
    by_cases hlt : i < k
    · obtain ⟨n, hn⟩ : ∃ n : Nat, n = x ^ (i + 1) := ⟨_, rfl⟩
      have b1 := HP.out (i + 1) (by omega)
      rw [← hn] at b1
      obtain ⟨m1, m2, m3⟩ := mul_facts m x n (by rw [hn, HM.out, Nat.pow_succ]) (by omega)
      have HX := Lib.hid hn
      clear hn b1
      go_wp2
      go_roundw
      case rel => exact ⟨i + 1, n, by go_num, rfl, by omega, HX, trivial⟩
      case measure => simp [intOf]; omega
    · obtain rfl : i = k := by omega
      go_wp2
      go_ret
      exact ⟨by rw [HM.out]; rfl, rfl⟩

theorem apL_snoc (a b : UInt8) : ∀ (xs ys : Bs), xs.length = ys.length → apL (xs ++ [a]) (ys ++ [b]) = apL xs ys + (if a = b then 0 else 1)
  | [], [], _ => by simp [apL]
  | [], _ :: _, h => by simp at h
  | _ :: _, [], h => by simp at h
  | x :: xs, y :: ys, h => by
    have ih := apL_snoc a b xs ys (by simpa using h)
    simp only [List.cons_append, apL]
    rw [ih, Nat.add_assoc]
/-- At how many of the first k places two texts differ. -/
def apTo (x y : Bs) (k : Nat) : Nat := apL (x.take k) (y.take k)
theorem apTo_succ {x y : Bs} {k : Nat} {a b : UInt8} (ha : x[k]? = some a) (hb : y[k]? = some b) : apTo x y (k + 1) = apTo x y k + (if a = b then 0 else 1) := by
  have la := (List.getElem?_eq_some_iff.1 ha).1
  have lb := (List.getElem?_eq_some_iff.1 hb).1
  unfold apTo
  rw [List.take_add_one, List.take_add_one, ha, hb]
  exact apL_snoc a b _ _ (by rw [List.length_take, List.length_take]; omega)
theorem apTo_le (x y : Bs) (k : Nat) : apTo x y k ≤ k := Nat.le_trans (apL_le _ _) (by rw [List.length_take]; exact Nat.min_le_left _ _)

set_option maxHeartbeats 2000000 in
theorem sApart_any (a b : ByteArray) (w : World) (ha : a.size ≤ 5) (hab : a.size = b.size) :
    Calls Try.prog 93 #[.string a, .string b] w fun e w' => e = .returned (.int .i64 ((apL (bl a) (bl b) : Nat) : Int)) ∧ ∃ q, w' = w.drewN q := by
  have HE : Hid (apTo (bl a) (bl b) a.size = apL (bl a) (bl b)) := Lib.hid (by
    unfold apTo
    rw [List.take_of_length_le (by rw [bl_len]; omega), List.take_of_length_le (by rw [bl_len]; omega)])
  go_enter Try.func93, Try.ntmps93
  go_wp2
  go_loopw [5, 6] (fun pv v wr => ∃ (k m q : Nat), v = .int .i64 k ∧ pv = .int .i64 m ∧ k ≤ a.size ∧ m ≤ 5 ∧ Hid (m = apTo (bl a) (bl b) k) ∧ wr = w.drewN q) (fun _ v _ => a.size - (intOf v).toNat)
  case atStart => exact ⟨0, 0, 0, rfl, rfl, Nat.zero_le _, by omega, Lib.hid (by simp [apTo, apL]), rfl⟩
  case round =>
    obtain ⟨k, m, q, rfl, rfl, hk, hm5, HM, rfl⟩ := hrel
    by_cases hlt : k < a.size
    · have hltb : k < b.size := by omega
      have HS := Lib.hid (apTo_succ (bl_at a k hlt) (bl_at b k hltb))
      have hle := apTo_le (bl a) (bl b) (k + 1)
      have i0 : (0 : Int) ≤ (k : Int) := by omega
      have i1 : (k : Int) < (a.size : Int) := by omega
      have i2 : (k : Int) < (b.size : Int) := by omega
      by_cases hxy : a[k] = b[k]
      · have t1 : ((a[k].toNat : Int) != (b[k].toNat : Int)) = false := by rw [hxy]; simp
        have t2 : ((a[k].toNat : Int) == (b[k].toNat : Int)) = true := by rw [hxy]; simp
        have HX : Hid (m = apTo (bl a) (bl b) (k + 1)) := Lib.hid (by rw [HS.out, if_pos hxy, Nat.add_zero]; exact HM.out)
        clear hxy HS hle
        go_wp2
        go_quiet (fail)
        go_wp2
        go_roundw
        case rel => exact ⟨k + 1, m, _, by go_num, rfl, by omega, hm5, HX, rfl⟩
        case measure => simp [intOf]; omega
      · have t0 : ¬ a[k].toNat = b[k].toNat := fun h => hxy (UInt8.toNat_inj.1 h)
        have t1 : ((a[k].toNat : Int) != (b[k].toNat : Int)) = true := by simp; omega
        have t2 : ((a[k].toNat : Int) == (b[k].toNat : Int)) = false := by simp; omega
        have HX : Hid (m + 1 = apTo (bl a) (bl b) (k + 1)) := Lib.hid (by rw [HS.out, if_neg hxy, HM.out])
        have hm6 : m + 1 ≤ 5 := by rw [HX.out]; omega
        clear hxy HS hle t0
        go_wp2
        go_quiet (fail)
        go_wp2
        go_roundw
        case rel => exact ⟨k + 1, m + 1, _, by go_num, by go_num, by omega, hm6, HX, rfl⟩
        case measure => simp [intOf]; omega
    · obtain rfl : k = a.size := by omega
      go_wp2
      go_ret
      exact ⟨by rw [← HE.out, ← HM.out]; rfl, q, rfl⟩

set_option maxHeartbeats 2000000 in
theorem apart_any (a b : ByteArray) (w : World) (ha : a.size ≤ 5) (hab : a.size = b.size) :
    Calls Try.prog 105 #[.string a, .string b] w fun e w' => e = .returned (.int .i64 ((apL (bl a) (bl b) : Nat) : Int)) ∧ ∃ q, w' = w.drewN q := by
  have HE : Hid (apTo (bl a) (bl b) a.size = apL (bl a) (bl b)) := Lib.hid (by
    unfold apTo
    rw [List.take_of_length_le (by rw [bl_len]; omega), List.take_of_length_le (by rw [bl_len]; omega)])
  go_enter Try.func105, Try.ntmps105
  go_wp2
  go_loopw [5, 9] (fun pv v wr => ∃ (k m q : Nat), v = .int .i64 k ∧ pv = .int .i64 m ∧ k ≤ a.size ∧ m ≤ 5 ∧ Hid (m = apTo (bl a) (bl b) k) ∧ wr = w.drewN q) (fun _ v _ => a.size - (intOf v).toNat)
  case atStart => exact ⟨0, 0, 0, rfl, rfl, Nat.zero_le _, by omega, Lib.hid (by simp [apTo, apL]), rfl⟩
  case round =>
    obtain ⟨k, m, q, rfl, rfl, hk, hm5, HM, rfl⟩ := hrel
    by_cases hlt : k < a.size
    · have hltb : k < b.size := by omega
      have HS := Lib.hid (apTo_succ (bl_at a k hlt) (bl_at b k hltb))
      have hle := apTo_le (bl a) (bl b) (k + 1)
      have i0 : (0 : Int) ≤ (k : Int) := by omega
      have i1 : (k : Int) < (a.size : Int) := by omega
      have i2 : (k : Int) < (b.size : Int) := by omega
      by_cases hxy : a[k] = b[k]
      · have t1 : ((a[k].toNat : Int) != (b[k].toNat : Int)) = false := by rw [hxy]; simp
        have t2 : ((a[k].toNat : Int) == (b[k].toNat : Int)) = true := by rw [hxy]; simp
        have HX : Hid (m = apTo (bl a) (bl b) (k + 1)) := Lib.hid (by rw [HS.out, if_pos hxy, Nat.add_zero]; exact HM.out)
        clear hxy HS hle
        go_wp2
        go_quiet (fail)
        go_wp2
        go_roundw
        case rel => exact ⟨k + 1, m, _, by go_num, rfl, by omega, hm5, HX, rfl⟩
        case measure => simp [intOf]; omega
      · have t0 : ¬ a[k].toNat = b[k].toNat := fun h => hxy (UInt8.toNat_inj.1 h)
        have t1 : ((a[k].toNat : Int) != (b[k].toNat : Int)) = true := by simp; omega
        have t2 : ((a[k].toNat : Int) == (b[k].toNat : Int)) = false := by simp; omega
        have HX : Hid (m + 1 = apTo (bl a) (bl b) (k + 1)) := Lib.hid (by rw [HS.out, if_neg hxy, HM.out])
        have hm6 : m + 1 ≤ 5 := by rw [HX.out]; omega
        clear hxy HS hle t0
        go_wp2
        go_quiet (fail)
        go_wp2
        go_roundw
        case rel => exact ⟨k + 1, m + 1, _, by go_num, by go_num, by omega, hm6, HX, rfl⟩
        case measure => simp [intOf]; omega
    · obtain rfl : k = a.size := by omega
      go_wp2
      go_ret
      exact ⟨by rw [← HE.out, ← HM.out]; rfl, q, rfl⟩
end Go.Proofs.Ytomhjfjfmjacfaa
