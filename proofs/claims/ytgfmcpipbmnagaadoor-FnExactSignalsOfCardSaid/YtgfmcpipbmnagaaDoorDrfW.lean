/-
  What lengths are read as, drifts: runOfLength, driftOf of the program, l5Times, l5Drift of the model. Used by the claims on chapter 5.
-/
import Derived.Test.YtgfmcpipbmnagaaDoorTrcW
import Derived.Test.YtgfmcpipbmnagaaDoorTwoW
import Derived.Tactics2
import Derived.Laws.StructEq
namespace Go.Proofs.YtgfmcpipbmnagaaDoor
open Go.RowKit
set_option linter.unusedVariables false

theorem res_twoR {fn : Func} {p : Tmp} (h : fn.results = #[.cell p 57]) (tmps : Array Value) {w : World} {g : Nat} {x y : Int} (hp : tmps.getD p undef = .pointer (some ⟨g, 0, none⟩)) (hb : Two w g x y) : (results fn tmps).run Tryd.prog w = .ok (.agg #[.int .i64 x, .int .i64 y]) w := by
  have hp' : tmps[p]?.getD undef = .pointer (some ⟨g, 0, none⟩) := by simpa using hp
  simp [results, h, hp', asAddr, load_two hb]
theorem run_idx1 (x y : Value) (w : World) : (Instr.index 57 (.agg #[x, y]) (.int .i64 1)).run Tryd.prog w = .ok y w := by
  have u3 := Tryd.underlying3
  have a3 := Tryd.isAgg3
  have z3 := Tryd.sizeOf3
  simp [Instr.index, run_underlying Tryd.underlying57, asIntOf]
  go_simp
def onOf (i : Nat) : Nat := if i % 2 = 0 then 1 else 0
theorem par_facts (i : Nat) (hi : i ≤ 1048576) : (i % 2 = 0 ∧ Int.tmod (i : Int) 2 = 0) ∨ (i % 2 = 1 ∧ Int.tmod (i : Int) 2 = 1) := by
  rw [Int.tmod_eq_emod_of_nonneg (by omega)]
  omega
set_option maxHeartbeats 2000000 in
theorem runOfLen_any (i x u : Nat) (w : World) (hi : i ≤ 1048576) (hx : x ≤ 1048576) (hu : u ≤ 99) :
    Calls Tryd.prog 69 #[.int .i64 i, .int .i64 x, .int .i64 u] w fun e w' => e = .returned (.agg #[.int .i64 ((onOf i : Nat) : Int), .int .i64 ((tms i x u : Nat) : Int)]) ∧ Below w.heap.size w w' := by
  have u0 : (0 : Int) ≤ (u : Int) := by omega
  have u1 : (u : Int) ≤ 99 := by omega
  have x1 : (x : Int) ≤ 1048576 := by omega
  rcases par_facts i hi with ⟨hp, ht⟩ | ⟨hp, ht⟩
  · have HO : Hid (onOf i = 1) := Lib.hid (if_pos hp)
    by_cases h2 : x < 2 * u
    · have HT : Hid (tms i x u = 1) := Lib.hid (if_pos h2)
      have h2' : (x : Int) < 2 * (u : Int) := by omega
      rw [HO.out, HT.out]
      clear hp h2 hi hx hu
      have HR := Lib.hid (two_new w 1 1)
      have HB := Lib.hid (below_alloc w (.cells #[.int .i64 1, .int .i64 1] 57))
      have f0 := (two_new w 0 0).frozen 0
      have f1 := (two_new w 0 0).frozen 1
      have c0 := (two_new w 0 0).cell0
      have c1 := (two_new w 0 0).cell1
      go_enter Tryd.func69, Tryd.ntmps69
      go_wp2
      refine bodyPost_ret (res_twoR rfl _ rfl HR.out) rfl ?_
      exact ⟨rfl, HB.out⟩
    · have HT : Hid (tms i x u = 3) := Lib.hid (by rw [tms, if_neg h2, if_pos (.inl hp)])
      have h2' : ¬ (x : Int) < 2 * (u : Int) := by omega
      rw [HO.out, HT.out]
      clear hp h2 hi hx hu
      have HR := Lib.hid (two_new w 1 3)
      have HB := Lib.hid (below_alloc w (.cells #[.int .i64 1, .int .i64 3] 57))
      have f0 := (two_new w 0 0).frozen 0
      have f1 := (two_new w 0 0).frozen 1
      have c0 := (two_new w 0 0).cell0
      have c1 := (two_new w 0 0).cell1
      go_enter Tryd.func69, Tryd.ntmps69
      go_wp2
      refine bodyPost_ret (res_twoR rfl _ rfl HR.out) rfl ?_
      exact ⟨rfl, HB.out⟩
  · have HO : Hid (onOf i = 0) := Lib.hid (if_neg (by omega))
    by_cases h2 : x < 2 * u
    · have HT : Hid (tms i x u = 1) := Lib.hid (if_pos h2)
      have h2' : (x : Int) < 2 * (u : Int) := by omega
      rw [HO.out, HT.out]
      clear hp h2 hi hx hu
      have HR := Lib.hid (two_new w 0 1)
      have HB := Lib.hid (below_alloc w (.cells #[.int .i64 0, .int .i64 1] 57))
      have f0 := (two_new w 0 0).frozen 0
      have f1 := (two_new w 0 0).frozen 1
      have c0 := (two_new w 0 0).cell0
      have c1 := (two_new w 0 0).cell1
      go_enter Tryd.func69, Tryd.ntmps69
      go_wp2
      refine bodyPost_ret (res_twoR rfl _ rfl HR.out) rfl ?_
      exact ⟨rfl, HB.out⟩
    · by_cases h5 : x < 5 * u
      · have HT : Hid (tms i x u = 3) := Lib.hid (by rw [tms, if_neg h2, if_pos (.inr h5)])
        have h2' : ¬ (x : Int) < 2 * (u : Int) := by omega
        have h5' : (x : Int) < 5 * (u : Int) := by omega
        rw [HO.out, HT.out]
        clear hp h2 h5 hi hx hu
        have HR := Lib.hid (two_new w 0 3)
        have HB := Lib.hid (below_alloc w (.cells #[.int .i64 0, .int .i64 3] 57))
        have f0 := (two_new w 0 0).frozen 0
        have f1 := (two_new w 0 0).frozen 1
        have c0 := (two_new w 0 0).cell0
        have c1 := (two_new w 0 0).cell1
        go_enter Tryd.func69, Tryd.ntmps69
        go_wp2
        refine bodyPost_ret (res_twoR rfl _ rfl HR.out) rfl ?_
        exact ⟨rfl, HB.out⟩
      · have HT : Hid (tms i x u = 7) := Lib.hid (by rw [tms, if_neg h2, if_neg (by omega)])
        have h2' : ¬ (x : Int) < 2 * (u : Int) := by omega
        have h5' : ¬ (x : Int) < 5 * (u : Int) := by omega
        rw [HO.out, HT.out]
        clear hp h2 h5 hi hx hu
        have HR := Lib.hid (two_new w 0 7)
        have HB := Lib.hid (below_alloc w (.cells #[.int .i64 0, .int .i64 7] 57))
        have f0 := (two_new w 0 0).frozen 0
        have f1 := (two_new w 0 0).frozen 1
        have c0 := (two_new w 0 0).cell0
        have c1 := (two_new w 0 0).cell1
        go_enter Tryd.func69, Tryd.ntmps69
        go_wp2
        refine bodyPost_ret (res_twoR rfl _ rfl HR.out) rfl ?_
        exact ⟨rfl, HB.out⟩
set_option maxHeartbeats 2000000 in
theorem sTimes_any (a : Option Addr) (g c : Nat) (m : List Nat) (i u : Nat) (w : World) (hs : SrcV w a g (ints m)) (hi : i < m.length) (hl : m.length ≤ 1048576) (hx : m[i] ≤ 1048576) (hu : u ≤ 99) :
    Calls Tryd.prog 65 #[.slice a m.length c, .int .i64 i, .int .i64 u] w fun e w' => e = .returned (.int .i64 ((tms i m[i] u : Nat) : Int)) ∧ w' = w := by
  obtain rfl := hs.1 (by rw [ints_len]; omega)
  have d1 := hs.2 i _ (ints_at hi)
  clear hs
  generalize m[i] = x at d1 hx ⊢
  have i0 : (0 : Int) ≤ (i : Int) := by omega
  have i1 : (i : Int) < (m.length : Int) := by omega
  have u0 : (0 : Int) ≤ (u : Int) := by omega
  have u1 : (u : Int) ≤ 99 := by omega
  have x1 : (x : Int) ≤ 1048576 := by omega
  rcases par_facts i (by omega) with ⟨hp, ht⟩ | ⟨hp, ht⟩
  · by_cases h2 : x < 2 * u
    · have HT : Hid (tms i x u = 1) := Lib.hid (if_pos h2)
      have h2' : (x : Int) < 2 * (u : Int) := by omega
      rw [HT.out]
      clear hp h2
      go_enter Tryd.func65, Tryd.ntmps65
      go_wp2
      go_ret
      exact ⟨rfl, rfl⟩
    · have HT : Hid (tms i x u = 3) := Lib.hid (by rw [tms, if_neg h2, if_pos (.inl hp)])
      have h2' : ¬ (x : Int) < 2 * (u : Int) := by omega
      rw [HT.out]
      clear hp h2
      go_enter Tryd.func65, Tryd.ntmps65
      go_wp2
      go_ret
      exact ⟨rfl, rfl⟩
  · by_cases h2 : x < 2 * u
    · have HT : Hid (tms i x u = 1) := Lib.hid (if_pos h2)
      have h2' : (x : Int) < 2 * (u : Int) := by omega
      rw [HT.out]
      clear hp h2
      go_enter Tryd.func65, Tryd.ntmps65
      go_wp2
      go_ret
      exact ⟨rfl, rfl⟩
    · by_cases h5 : x < 5 * u
      · have HT : Hid (tms i x u = 3) := Lib.hid (by rw [tms, if_neg h2, if_pos (.inr h5)])
        have h2' : ¬ (x : Int) < 2 * (u : Int) := by omega
        have h5' : (x : Int) < 5 * (u : Int) := by omega
        rw [HT.out]
        clear hp h2 h5
        go_enter Tryd.func65, Tryd.ntmps65
        go_wp2
        go_ret
        exact ⟨rfl, rfl⟩
      · have HT : Hid (tms i x u = 7) := Lib.hid (by rw [tms, if_neg h2, if_neg (by omega)])
        have h2' : ¬ (x : Int) < 2 * (u : Int) := by omega
        have h5' : ¬ (x : Int) < 5 * (u : Int) := by omega
        rw [HT.out]
        clear hp h2 h5
        go_enter Tryd.func65, Tryd.ntmps65
        go_wp2
        go_ret
        exact ⟨rfl, rfl⟩
theorem most_any (x y : Int) (w : World) : Calls Tryd.prog 82 #[.int .i64 x, .int .i64 y] w fun e w' => e = .returned (.int .i64 (max x y)) ∧ w' = w := by
  by_cases h : y < x
  · have HR : Hid (max x y = x) := Lib.hid (by omega)
    rw [HR.out]
    go_enter Tryd.func82, Tryd.ntmps82
    go_wp2
    go_ret
    exact ⟨rfl, rfl⟩
  · have HR : Hid (max x y = y) := Lib.hid (by omega)
    rw [HR.out]
    go_enter Tryd.func82, Tryd.ntmps82
    go_wp2
    go_ret
    exact ⟨rfl, rfl⟩
theorem prod_facts (t u : Nat) (ht : t ≤ 7) (hu : u ≤ 99) : ∃ p : Nat, t * u = p ∧ p ≤ 693 ∧ (t : Int) * (u : Int) = (p : Int) ∧ wrap64 (p : Int) = (p : Int) ∧ IntKind.i64.wrap (p : Int) = (p : Int) := by
  have h : t * u ≤ 7 * 99 := Nat.mul_le_mul ht hu
  exact ⟨t * u, rfl, by omega, (Int.natCast_mul _ _).symm, IntWalk.wrap64_in _ (by omega), by rw [IntKind.wrap_i64]; omega⟩
theorem absd_max (x p : Nat) : max ((x : Int) - (p : Int)) ((p : Int) - (x : Int)) = ((absd x p : Nat) : Int) := by unfold absd; omega
theorem absd_max2 (x p : Nat) : max ((x : Int) - (p : Int)) (-((x : Int) - (p : Int))) = ((absd x p : Nat) : Int) := by unfold absd; omega
set_option maxHeartbeats 4000000 in
set_option maxRecDepth 8000 in
theorem driftOf_any (a : Option Addr) (g c : Nat) (m : List Nat) (u : Nat) (w : World) (hs : SrcV w a g (ints m)) (h : IsTr m) (hu : u ≤ 99) :
    Calls Tryd.prog 57 #[.slice a m.length c, .int .i64 u] w fun e w' => e = .returned (.int .i64 ((drL m u : Nat) : Int)) ∧ Below w.heap.size w w' := by
  have HS := Lib.hid fun W hb => hs.below (w' := W) hb
  have HX := Lib.hid hs.1
  have HT := Lib.hid h
  have hl := h.len
  clear hs h
  have u1 : (u : Int) ≤ 99 := by omega
  go_enter Tryd.func57, Tryd.ntmps57
  go_wp2
  go_loopw [5, 11] (fun d v wr => ∃ (k dd : Nat), v = .int .i64 k ∧ k ≤ m.length ∧ d = .int .i64 dd ∧ dd ≤ 1692 * k ∧ Hid (dd = drTo m u k) ∧ Hid (Below w.heap.size w wr)) (fun _ v _ => m.length - (intOf v).toNat)
  case atStart => exact ⟨0, 0, rfl, Nat.zero_le _, rfl, Nat.le_refl _, Lib.hid rfl, Lib.hid (Below.refl _ _)⟩
  case round =>
    obtain ⟨k, dd, rfl, hk, rfl, hdd, HD, HB⟩ := hrel
    by_cases hlt : k < m.length
    · obtain rfl := HX.out (by rw [ints_len]; omega)
      have d1 := (HS.out wr HB.out).2 k _ (ints_at hlt)
      have hx := (HT.out.at hlt).2
      have HN : Hid (drTo m u (k + 1) = dd + absd m[k] (tms k m[k] u * u)) := Lib.hid (by rw [drTo_succ hlt, ← HD.out])
      have hst := (dr_step k m[k] u hx hu).1
      have ht7 := (tms_bd k m[k] u).2
      have HR := Lib.hid fun w => runOfLen_any k m[k] u w (by omega) (by omega) hu
      generalize m[k] = x at d1 hx HN hst ht7 HR
      generalize tms k x u = t at HN hst ht7 HR
      obtain ⟨p, hp, hp2, p1, p2, p3⟩ := prod_facts t u ht7 hu
      rw [hp] at HN hst
      have HM := Lib.hid (absd_max x p)
      have HN2 : Hid (dd + absd x p = drTo m u (k + 1)) := Lib.hid HN.out.symm
      generalize absd x p = z at HN hst HM HN2
      have HZ : Hid (dd + z ≤ 1692 * (k + 1)) := Lib.hid (by omega)
      have m1 := HM.out
      have i0 : (0 : Int) ≤ (k : Int) := by omega
      have i1 : (k : Int) < (m.length : Int) := by omega
      clear hp HN HM
      go_wp2_with fail
      refine (HR.out _).mono ?_
      rintro e w2 ⟨rfl, hb⟩
      have HB2 := Lib.hid (HB.out.trans (hb.mono HB.out.size))
      clear hb d1
      have ix := run_idx1 (.int .i64 ((onOf k : Nat) : Int)) (.int .i64 (t : Int)) w2
      go_wp2
      go_roundw
      case rel => exact ⟨k + 1, dd + z, by go_num, by omega, by go_num, HZ.out, HN2, HB2⟩
      case measure => simp [intOf]; omega
    · obtain rfl : k = m.length := by omega
      go_wp2
      go_ret
      exact ⟨by rw [HD.out]; rfl, HB.out⟩
end Go.Proofs.YtgfmcpipbmnagaaDoor
