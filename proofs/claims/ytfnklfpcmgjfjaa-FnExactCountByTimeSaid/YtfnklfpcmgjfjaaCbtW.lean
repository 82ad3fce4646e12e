/-
  CountByTime of the program. Used by the claims on chapter 8.
-/
import Derived.Test.YtfnklfpcmgjfjaaCbtL
import Derived.Test.YtfnklfpcmgjfjaaGrow0
import Derived.IntWalk
import Derived.LoopTactic
import Derived.Lib.Hide
import Derived.WalkSpells
import Derived.Deep.RegionLaw
import Derived.Deep.AppendLies
namespace Go.Proofs.Ytfnklfpcmgjfjaa
open Go.RowKit
set_option linter.unusedVariables false

def cbOk (t : Int) : Bool := decide (1 ≤ t) && decide (t ≤ 30)
def cbZ (t : Int) : Int := if cbOk t = true then ((cbt t.toNat : Nat) : Int) else 0
theorem infoIc : (Try.prog.info? 3).map (fun i => (i.zero, i.size, i.bytes)) = some (some (.int .i64 0), 1, 8) := by kernel_rfl
theorem row_posC {W : World} {base : Nat} {e : TypeId} {size : Nat} {v : Value} {n : Nat} {vs : List Value} (h : W.ownsRow base e size v n vs) (hn : 0 < n) : ∃ g c, v = .slice (some ⟨g, 0, none⟩) n c ∧ SrcV W (some ⟨g, 0, none⟩) g vs ∧ base ≤ g ∧ g < W.heap.size ∧ n ≤ c := by
  obtain ⟨g, cap, rfl, h1, h2⟩ := h.form hn
  obtain ⟨g', c', e', hs, hb, _, hc⟩ := seq_of_row2 h (by intro e; cases e)
  cases e'
  exact ⟨g, cap, rfl, hs, h1, h2, hc⟩
theorem sum_wrap {x y : Nat} (hx : x ≤ 2000) (hy : y ≤ 2000) : IntKind.i64.wrap ((x : Int) + (y : Int)) = ((x + y : Nat) : Int) ∧ wrap64 ((x : Int) + (y : Int)) = ((x + y : Nat) : Int) := by
  rw [Int.natCast_add]
  exact ⟨IntWalk.i64_in _ (by omega), IntWalk.wrap64_in _ (by omega)⟩
theorem less_two {k : Nat} (h : 5 ≤ k) (hk : k ≤ 31) : ∃ p : Nat, p = k - 2 ∧ (IntKind.i64.wrap ((k : Int) - 2) = (p : Int)) ∧ (wrap64 ((k : Int) - 2) = (p : Int)) := by
  refine ⟨k - 2, rfl, ?_, ?_⟩
  · rw [IntWalk.i64_in _ (by omega)]; omega
  · rw [IntWalk.wrap64_in _ (by omega)]; omega
theorem less_four {k : Nat} (h : 5 ≤ k) (hk : k ≤ 31) : ∃ p : Nat, p = k - 4 ∧ (IntKind.i64.wrap ((k : Int) - 4) = (p : Int)) ∧ (wrap64 ((k : Int) - 4) = (p : Int)) := by
  refine ⟨k - 4, rfl, ?_, ?_⟩
  · rw [IntWalk.i64_in _ (by omega)]; omega
  · rw [IntWalk.wrap64_in _ (by omega)]; omega

set_option maxHeartbeats 2000000 in
set_option maxRecDepth 10000 in
theorem countByTime_any (t : Int) (w : World) (ht : (Lit.int .i64 t).wf = true) :
    Calls Try.prog 53 #[.int .i64 t] w fun e w' => e = .returned (.tuple #[.int .i64 (cbZ t), .bool (cbOk t)]) ∧ Below w.heap.size w w' := by
  by_cases h1 : t < 1
  · have HR : Hid (cbZ t = 0 ∧ cbOk t = false) := Lib.hid (by
      have : cbOk t = false := by simp [cbOk]; omega
      exact ⟨by simp [cbZ, this], this⟩)
    rw [HR.out.1, HR.out.2]
    go_enter Try.func53, Try.ntmps53
    go_wp2
    go_ret2
    exact ⟨rfl, Below.refl _ _⟩
  · by_cases h2 : 30 < t
    · have HR : Hid (cbZ t = 0 ∧ cbOk t = false) := Lib.hid (by
        have : cbOk t = false := by simp [cbOk]; omega
        exact ⟨by simp [cbZ, this], this⟩)
      rw [HR.out.1, HR.out.2]
      go_enter Try.func53, Try.ntmps53
      go_wp2
      go_ret2
      exact ⟨rfl, Below.refl _ _⟩
    · obtain ⟨n, rfl⟩ : ∃ n : Nat, t = (n : Int) := ⟨t.toNat, by omega⟩
      have HR : Hid (cbZ (n : Int) = ((cbt n : Nat) : Int) ∧ cbOk (n : Int) = true) := Lib.hid (by
        have : cbOk (n : Int) = true := by simp [cbOk]; omega
        exact ⟨by simp [cbZ, this], this⟩)
      have n1 : 1 ≤ n := by omega
      have n30 : n ≤ 30 := by omega
      obtain ⟨i0, hi, hz0, hz1, hz2⟩ := info_parts infoIc
      have M0 : Hid ((w.alloc (.cells #[.int .i64 0, .int .i64 1, .int .i64 0, .int .i64 2, .int .i64 0] 3)).ownsRow w.heap.size 3 1 (.slice (some ⟨w.heap.size, 0, none⟩) 5 5) 5 (ints (cbtL 5))) := Lib.hid
        ⟨rfl, .inr ⟨w.heap.size, 5, _, rfl, Nat.le_refl _, heap_alloc_new w _, Nat.le_refl _, by unfold maxLen; omega, rfl, rfl⟩⟩
      have HB0 := Lib.hid (below_alloc w (.cells #[.int .i64 0, .int .i64 1, .int .i64 0, .int .i64 2, .int .i64 0] 3))
      clear ht
      rw [HR.out.1, HR.out.2]
      go_enter Try.func53, Try.ntmps53
      go_wp2
      go_loopw [4, 5] (fun cv v wr => ∃ k : Nat, v = .int .i64 k ∧ 5 ≤ k ∧ k ≤ 31 ∧ (k ≤ n + 1 ∨ k = 5) ∧ wr.ownsRow w.heap.size 3 1 cv k (ints (cbtL k)) ∧ Hid (Below w.heap.size w wr)) (fun _ v _ => 31 - (intOf v).toNat)
      case atStart => exact ⟨5, rfl, Nat.le_refl _, by omega, .inr rfl, M0.out, HB0⟩
      case round =>
        obtain ⟨k, rfl, hk5, hk31, hkn, hown, HB⟩ := hrel
        obtain ⟨g, cap, hv, hsv, hg, hglt, hcap⟩ := row_posC hown (by omega)
        subst hv
        have hsz := HB.out.size
        by_cases hlt : k ≤ n
        · obtain ⟨p2, hp2, u1, u2⟩ := less_two hk5 hk31
          obtain ⟨p4, hp4, u3, u4⟩ := less_four hk5 hk31
          have U := Lib.hid (And.intro (And.intro u1 u2) (And.intro u3 u4))
          clear u1 u2 u3 u4
          have d1 := hsv.2 p2 _ (cbtL_at (by omega))
          have d2 := hsv.2 p4 _ (cbtL_at (by omega))
          have b1 := cbt_le p2 (by omega)
          have b2 := cbt_le p4 (by omega)
          have HS : Hid (cbtL (k + 1) = cbtL k ++ [cbt p2 + cbt p4]) := Lib.hid (by rw [cbtL_succ, cbt_step hk5, hp2, hp4])
          generalize cbt p2 = x at d1 b1 HS
          generalize cbt p4 = y at d2 b2 HS
          have HLt : Hid (∀ q, (Value.slice (some ⟨g, 0, none⟩) k cap).ownBlock = some q → w.heap.size ≤ q) := Lib.hid (fun q e => (hown.lt q e).1)
          have q1 : k + 1 ≤ maxLen := by unfold maxLen; omega
          have q2 : (k + 1) * 8 ≤ 140737488355328 := by omega
          have j0 : (0 : Int) ≤ (p2 : Int) := by omega
          have j1 : (p2 : Int) < (k : Int) := by omega
          have j2 : (0 : Int) ≤ (p4 : Int) := by omega
          have j3 : (p4 : Int) < (k : Int) := by omega
          have k1 : (k : Int) ≤ n := by omega
          clear hp2 hp4
          obtain ⟨u5, u6⟩ := sum_wrap b1 b2
          obtain ⟨⟨u1, u2⟩, ⟨u3, u4⟩⟩ := U.out
          go_wp2
          go_region_law
            (refine step_append_lies _ (by rfl) _ _ _ (by rfl) w.heap.size 3 i0 _ 1 8 Try.underlying25 hi hz0 hz1 hz2 rfl (by decide) (.slice (some ⟨g, 0, none⟩) k cap) k (ints (cbtL k)) (by rfl) ((hown.alloc _).drew)
              ⟨wr.heap.size, 0, none⟩ 1 1 [.int .i64 ((x + y : Nat) : Int)] (by rfl) (by rfl) (World.news_of_block (cs := #[.int .i64 ((x + y : Nat) : Int)]) (t := 3) (fr := (0, 0)) (heap_alloc_new wr _)) (by simp [Value.oneCell'])
              (by decide) q1 q2 (Nat.le_trans hsz (below_alloc wr _).size) (wr.heap.size + 1) (by simp) ?_; intro gg capg w4 hown4 hgrow hat hglt4)
          all_goals (
            have HW7 : Hid (w4.ownsRow w.heap.size 3 1 (.slice (some ⟨gg, 0, none⟩) (k + 1) capg) (k + 1) (ints (cbtL (k + 1)))) := Lib.hid (by rw [HS.out, ints_snoc]; exact hown4)
            have HB7 : Hid (Below w.heap.size w w4) := Lib.hid (by
              have h1 : Below w.heap.size w ((wr.alloc (.cells #[.int .i64 ((x + y : Nat) : Int)] 3)).drew) := (HB.out.alloc HB.out.size _).drew
              exact h1.grown hgrow h1.size (fun q e => HLt.out q e))
            clear hown4 hgrow hat hglt4 hown u1 u2 u3 u4 u5 u6 d1 d2
            go_wp2
            go_roundw
            case rel => exact ⟨k + 1, by go_num, by omega, by omega, by omega, HW7.out, HB7⟩
            case measure => simp [intOf]; omega)
        · have hnk : n < k := by omega
          have d1 := hsv.2 n _ (cbtL_at hnk)
          have k1 : ¬ (k : Int) ≤ n := by omega
          have j0 : (0 : Int) ≤ (n : Int) := by omega
          have j1 : (n : Int) < (k : Int) := by omega
          clear hkn
          go_wp2
          go_ret2
          exact ⟨rfl, HB.out⟩
end Go.Proofs.Ytfnklfpcmgjfjaa
