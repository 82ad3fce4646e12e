/-
  costOf, CostOf of the program, l8Cost, CostOf of the model: both answer alike. Used by the claims on chapter 8.
-/
import Derived.Test.YtdphjnbelggcfaaWgW
import Derived.Deep.RegionWith
namespace Go.Proofs.Ytdphjnbelggcfaa
open Go.RowKit
set_option linter.unusedVariables false

theorem mul_small {x y : Nat} (hx : x ≤ 99) (hy : y ≤ 19) : ∃ p : Nat, p = x * y ∧ p ≤ 1881 ∧ (x : Int) * (y : Int) = (p : Int) := by
  have h : x * y ≤ 99 * 19 := Nat.mul_le_mul hx hy
  exact ⟨x * y, rfl, by omega, by rw [Int.natCast_mul]⟩
theorem wrap_small {p : Nat} (h : p ≤ 40000) : IntKind.i64.wrap (p : Int) = (p : Int) ∧ wrap64 (p : Int) = (p : Int) := ⟨IntWalk.i64_in _ (by omega), IntWalk.wrap64_in _ (by omega)⟩
theorem wrap_sum {z p : Nat} (hz : z ≤ 40000) (hp : p ≤ 40000) : (IntKind.i64.wrap ((z : Int) + (p : Int)) = (z : Int) + (p : Int)) ∧ (wrap64 ((z : Int) + (p : Int)) = (z : Int) + (p : Int)) := ⟨IntWalk.i64_in _ (by omega), IntWalk.wrap64_in _ (by omega)⟩
theorem zs_src {w : World} {a : Option Addr} {g : Nat} {m : List Nat} (h : SrcV w a g (intz (zs m))) (k : Nat) (hk : k < m.length) : w.cell? ⟨g, k, none⟩ = some (.int .i64 ((m[k] : Nat) : Int)) := by
  have := h.2 k _ (intz_at (l := zs m) (by rw [zs_len]; exact hk))
  rw [zs_at hk] at this
  exact this

def cosR (xs : List ByteArray) (l : List Int) : Nat := if fitB xs l = true then costR xs l else 0
/-! ### The model's -/
theorem zs_srcI {w : World} {a : Option Addr} {g p : Nat} {m : List Nat} (h : SrcI w a g p (zs m)) (k : Nat) (hk : k < m.length) : w.cell? ⟨g, p + k, none⟩ = some (.int .i64 ((m[k] : Nat) : Int)) := by
  have := h.2 k _ (List.getElem?_eq_getElem (by rw [zs_len]; exact hk))
  rw [zs_at hk] at this
  exact this
theorem srcI_of {w : World} {a : Option Addr} {g : Nat} {l : List Int} (h : SrcV w a g (intz l)) : SrcI w a g 0 l :=
  ⟨fun h0 => h.1 (by rw [intz_len]; exact h0), fun j x hx => by
    obtain ⟨hj, rfl⟩ := List.getElem?_eq_some_iff.1 hx
    rw [Nat.zero_add]
    exact h.2 j _ (intz_at hj)⟩
set_option maxHeartbeats 1000000 in
set_option maxRecDepth 10000 in
theorem sCost_any (a : Option Addr) (b o c : Nat) (xs : List ByteArray) (a1 : Option Addr) (g1 o1 c1 : Nat) (m : List Nat) (n1 n2 : Nat) (w : World) (hn1 : n1 = xs.length) (hn2 : n2 = m.length) (hx : Src w a b o xs) (hs : SrcI w a1 g1 o1 (zs m)) (hmk : ∀ x ∈ xs, marksL (bl x) = true) (h99 : ∀ u ∈ m, u ≤ 99) (hm10 : m.length ≤ 10) (hlx : m.length ≤ xs.length) (hxl : xs.length ≤ 1048576) :
    Calls Try.prog 132 #[.slice a n1 c, .slice a1 n2 c1] w fun e w' => e = .returned (.int .i64 ((cst (uAt m) (tAt xs) m.length : Nat) : Int)) ∧ ∃ q, w' = w.drewN q := by
  have HT := Lib.hid fun (x : ByteArray) (hx : x ∈ xs) w => sTime_any x w (by have := hmk x hx; simp only [marksL, Bool.and_eq_true, decide_eq_true_eq, bl_len] at this; omega)
  have H19 := Lib.hid fun k (hk : k < xs.length) => tml_le5 (x := bl xs[k]) (by have := hmk xs[k] (List.getElem_mem hk); simp only [marksL, Bool.and_eq_true, decide_eq_true_eq] at this; omega)
  have H99 := Lib.hid fun k (hk : k < m.length) => h99 m[k] (List.getElem_mem hk)
  have HS := Lib.hid hx.2
  have HA := Lib.hid hx.1
  have HW := Lib.hid hs
  have HX := Lib.hid hs.1
  clear hx hs hmk h99
  rw [← hn2] at hm10 hlx ⊢
  rw [← hn1] at hlx hxl
  have HN := Lib.hid hn2
  have HN1 := Lib.hid hn1
  clear hn1 hn2
  go_enter Try.func132, Try.ntmps132
  go_wp2
  go_loopw [5, 6] (fun s v wr => ∃ (k z : Nat), v = .int .i64 k ∧ k ≤ n2 ∧ s = .int .i64 z ∧ z ≤ 1881 * k ∧ Hid (z = cst (uAt m) (tAt xs) k) ∧ Hid (∃ q, wr = w.drewN q)) (fun _ v _ => n2 - (intOf v).toNat)
  case atStart => exact ⟨0, 0, rfl, Nat.zero_le _, rfl, by omega, Lib.hid rfl, Lib.hid ⟨0, rfl⟩⟩
  case round =>
    obtain ⟨k, z, rfl, hk, rfl, hz2, HZ, HQ⟩ := hrel
    by_cases hlt : k < n2
    · have hkm : k < m.length := by rw [← HN.out]; exact hlt
      have hkx : k < xs.length := by rw [← HN1.out]; omega
      obtain rfl := HA.out (by omega)
      obtain rfl := HX.out (by rw [zs_len]; omega)
      have d1 : wr.cell? _ = _ := (by obtain ⟨q, rfl⟩ := HQ.out; exact zs_srcI HW.out k hkm)
      have d2 : wr.cell? _ = _ := (by obtain ⟨q, rfl⟩ := HQ.out; exact HS.out k _ (List.getElem?_eq_getElem hkx))
      have F := Lib.hid fun w => HT.out xs[k] (List.getElem_mem hkx) w
      have c1' := H99.out k hkm
      have c2' := H19.out k hkx
      have HC : Hid (cst (uAt m) (tAt xs) (k + 1) = z + uAt m k * tAt xs k) := Lib.hid (by rw [cst, HZ.out])
      rw [uAt_eq hkm] at HC
      rw [tAt_eq hkx] at HC
      generalize m[k] = x at d1 c1' HC
      generalize xs[k] = s at d2 F c2' HC
      generalize tml (bl s) = y at F c2' HC
      obtain ⟨p, hp, hp2, hpi⟩ := mul_small c1' c2'
      have HC2 : Hid (z + p = cst (uAt m) (tAt xs) (k + 1)) := Lib.hid (by rw [HC.out, hp])
      have i0 : (0 : Int) ≤ (k : Int) := by omega
      have i1 : (k : Int) < (n1 : Int) := by omega
      have i2 : (k : Int) < (n2 : Int) := by omega
      have q0 : p ≤ 40000 := by omega
      have q1 : z ≤ 40000 := by omega
      have q2 : k + 1 ≤ n2 := by omega
      obtain ⟨e1, e2⟩ := wrap_small q0
      obtain ⟨e3, e4⟩ := wrap_sum q1 q0
      clear hp c1' c2' hkm hkx
      go_wp2
      go_quiet ((go_at_call 134; exact Calls.quiet_of_same (F.out _)))
      clear e1 e2 e3 e4
      go_wp2
      go_roundw
      case rel => exact ⟨k + 1, z + p, by go_num, q2, by go_num, by omega, HC2, Lib.hid (by obtain ⟨q, rfl⟩ := HQ.out; exact ⟨q + _, by rw [World.drewN_drewN]⟩)⟩
      case measure => simp [intOf]; omega
    · obtain rfl : k = n2 := by omega
      have HE : Hid (cst (uAt m) (tAt xs) k = z) := Lib.hid HZ.out.symm
      go_wp2
      go_ret
      exact ⟨by rw [HE.out]; rfl, HQ.out⟩
end Go.Proofs.Ytdphjnbelggcfaa
