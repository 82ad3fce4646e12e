/-
  The parts in which marks come of others, the model's: l7Parts, l7All. Used by the claims on chapter 7.
-/
import Derived.Test.YtomhjfjfmjacfaaFrS
namespace Go.Proofs.Ytomhjfjfmjacfaa
open Go.RowKit
set_option linter.unusedVariables false

set_option maxHeartbeats 2000000 in
theorem sAll_any (p q d : Nat) (w : World) (hd : d = p + q) (h2 : d ≤ 100) :
    Calls Try.prog 60 #[.agg #[.int .i64 p, .int .i64 d]] w fun e w' => e = .returned (.int .i64 ((allN p q : Nat) : Int)) ∧ Below w.heap.size w w' := by
  have hT := pr2_new 25 w p d
  have c1 := hT.cell1
  have HB := Lib.hid (below_alloc w (.cells #[.int .i64 (p : Int), .int .i64 (d : Int)] 25))
  have H := Lib.hid fun W => sPower_any d 5 W h2 (Nat.le_refl 5)
  have HE : Hid (allN p q = d ^ 5) := Lib.hid (by rw [hd]; rfl)
  rw [HE.out]
  generalize d ^ 5 = m at H ⊢
  clear hT hd h2
  go_enter Try.func60, Try.ntmps60
  go_wp2_with fail
  refine (H.out _).mono ?_
  rintro e w1 ⟨rfl, hww⟩
  obtain rfl := hww.symm
  go_wp2
  go_ret
  exact ⟨rfl, HB.out⟩

def powN (x k : Nat) : Nat := x ^ k
set_option maxHeartbeats 4000000 in
set_option maxRecDepth 20000 in
theorem sParts_any (p q d : Nat) (x y : ByteArray) (w : World) (hd : d = p + q) (h1 : 1 ≤ d) (h2 : d ≤ 100) (hx : x.size ≤ 5) (hy : y.size ≤ 5) :
    Calls Try.prog 59 #[.agg #[.int .i64 p, .int .i64 d], .string x, .string y] w fun e w' => e = .returned (.int .i64 ((ptN p q (bl x) (bl y) : Nat) : Int)) ∧ Below w.heap.size w w' := by
  have hT := pr2_new 25 w p d
  have HB := Lib.hid (below_alloc w (.cells #[.int .i64 (p : Int), .int .i64 (d : Int)] 25))
  by_cases hn : x.size = y.size
  · have HA := Lib.hid fun W => sApart_any x y W hx hn
    have hap : apL (bl x) (bl y) ≤ x.size := by
      have := apL_le (bl x) (bl y)
      rwa [bl_len] at this
    have HV : Hid (ptN p q (bl x) (bl y) = p ^ apL (bl x) (bl y) * q ^ (x.size - apL (bl x) (bl y)) * d ^ (5 - x.size)) := Lib.hid (by rw [ptN_pow (by rw [bl_len, bl_len]; exact hn), bl_len, hd])
    have hle : ptN p q (bl x) (bl y) ≤ 10000000000 := by
      have e1 := ptN_le (p := p) (q := q) (x := bl x) (y := bl y) (by rw [bl_len]; exact hx)
      have e2 := allN_le (p := p) (q := q) (by omega) (by omega)
      omega
    have hpp : p ^ apL (bl x) (bl y) * q ^ (x.size - apL (bl x) (bl y)) ≤ 10000000000 := by
      have e1 := pow_part (p := p) (q := q) (d := apL (bl x) (bl y)) (n := x.size) (by omega) (by omega) hap hx
      have e2 := pow_le5 (n := p + q) (k := x.size) (by omega) (by omega) hx
      omega
    generalize apL (bl x) (bl y) = a at *
    obtain ⟨k2, hk2⟩ : ∃ k2, k2 = x.size - a := ⟨_, rfl⟩
    obtain ⟨k3, hk3⟩ : ∃ k3, k3 = 5 - x.size := ⟨_, rfl⟩
    rw [← hk2] at HV hpp
    rw [← hk3] at HV
    have PP : Hid (∀ (x k : Nat) (W : World), x ≤ 100 → k ≤ 5 → Calls Try.prog 94 #[.int .i64 x, .int .i64 k] W fun e w' => e = .returned (.int .i64 ((powN x k : Nat) : Int)) ∧ w' = W) := Lib.hid fun x k W h1 h2 => sPower_any x k W h1 h2
    have g1 : p ≤ 100 := by omega
    have g2 : a ≤ 5 := by omega
    have g3 : q ≤ 100 := by omega
    have g4 : k2 ≤ 5 := by omega
    have g6 : k3 ≤ 5 := by omega
    obtain ⟨n, hnn⟩ : ∃ n, n = ptN p q (bl x) (bl y) := ⟨_, rfl⟩
    have HV2 : Hid (powN p a * powN q k2 * powN d k3 = n) := Lib.hid (by rw [hnn, HV.out]; rfl)
    rw [← hnn] at hle ⊢
    obtain ⟨m, hm⟩ : ∃ m, m = powN p a * powN q k2 := ⟨_, rfl⟩
    have hpp : m ≤ 10000000000 := by rw [hm]; exact hpp
    obtain ⟨u1, u2, u3⟩ := mul_facts (powN p a) (powN q k2) m hm.symm (by omega)
    obtain ⟨v1, v2, v3⟩ := mul_facts m (powN d k3) n (by rw [hm]; exact HV2.out) (by omega)
    have s1 : (d : Int) - (p : Int) = (q : Int) := by omega
    have s2 : (x.size : Int) - (a : Int) = (k2 : Int) := by omega
    have s3 : (5 : Int) - (x.size : Int) = (k3 : Int) := by omega
    obtain ⟨r1, r2⟩ := wrap_nat q (by omega)
    obtain ⟨r3, r4⟩ := wrap_nat k2 (by omega)
    obtain ⟨r5, r6⟩ := wrap_nat k3 (by omega)
    have t1 : ((x.size : Int) == (y.size : Int)) = true := by simp; omega
    have t2 : ((x.size : Int) != (y.size : Int)) = false := by simp; omega
    have c0 := hT.cell0
    have c1 := hT.cell1
    have d0 : Hid (∀ z, ((w.alloc (.cells #[.int .i64 (p : Int), .int .i64 (d : Int)] 25)).drewN z).cell? ⟨w.heap.size, 0, none⟩ = some (.int .i64 (p : Int))) := Lib.hid fun z => c0
    have d1 : Hid (∀ z, ((w.alloc (.cells #[.int .i64 (p : Int), .int .i64 (d : Int)] 25)).drewN z).cell? ⟨w.heap.size, 1, none⟩ = some (.int .i64 (d : Int))) := Lib.hid fun z => c1
    clear hT hn hd h1 hx hy hap hle hpp hk2 hk3 hnn HV HV2 hm
    go_enter Try.func59, Try.ntmps59
    go_wp2_with fail
    refine (HA.out _).mono ?_
    rintro e w1 ⟨rfl, z, rfl⟩
    have c0 := d0.out z
    have c1 := d1.out z
    have HB1 : Hid (Below w.heap.size w ((w.alloc (.cells #[.int .i64 (p : Int), .int .i64 (d : Int)] 25)).drewN z)) := Lib.hid (HB.out.trans ⟨rfl, rfl, rfl, Nat.le_refl _, fun _ _ => rfl⟩)
    generalize (w.alloc (.cells #[.int .i64 (p : Int), .int .i64 (d : Int)] 25)).drewN z = W1 at c0 c1 HB1 ⊢
    clear d0 d1
    go_wp2_with fail
    go_quiet ((go_at_call 94; exact Calls.quiet_of_same (PP.out _ _ _ (by assumption) (by assumption))))
    go_wp2
    go_ret
    exact ⟨rfl, HB1.out.trans ⟨rfl, rfl, rfl, Nat.le_refl _, fun _ _ => rfl⟩⟩
  · have HV : Hid (ptN p q (bl x) (bl y) = 0) := Lib.hid (ptN_ne (by rw [bl_len, bl_len]; exact hn))
    rw [HV.out]
    have t1 : ((x.size : Int) == (y.size : Int)) = false := by simp; omega
    have t2 : ((x.size : Int) != (y.size : Int)) = true := by simp; omega
    clear hT hn hd h1 h2 hx hy
    go_enter Try.func59, Try.ntmps59
    go_wp2
    go_ret
    exact ⟨rfl, HB.out⟩
end Go.Proofs.Ytomhjfjfmjacfaa
