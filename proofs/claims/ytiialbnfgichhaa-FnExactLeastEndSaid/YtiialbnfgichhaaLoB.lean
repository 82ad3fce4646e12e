/-
  LoadsOf: program and model answer alike. Used by the claim on LoadsOf.
-/
import Derived.Test.YtiialbnfgichhaaLdS
namespace Go.Proofs.Ytiialbnfgichhaa
open Go.RowKit
set_option linter.unusedVariables false
set_option maxHeartbeats 2000000 in
theorem sLoadsOf_any (n : Int) (a : Option Addr) (g c : Nat) (l : List Jb) (w : World) (hs : SrcV w a g (jbs l)) (hl : l.length ≤ 1048576) :
    Calls Try.prog 39 #[.int .i64 n, .slice a l.length c] w (SeqOut (ints (ldR n l)) (ldR n l).length (goodJ n l) w) := by
  have F1 := Lib.hid (sGoodJ_any n a g c l w hs hl)
  by_cases hgd : goodJ n l = true
  rotate_left
  · have h2 : goodJ n l = false := by simpa using hgd
    have HR : Hid (ldR n l = []) := Lib.hid (by unfold ldR; rw [if_neg hgd])
    rw [HR.out, h2]
    rw [h2] at F1
    clear hgd h2 hs
    go_enter Try.func39, Try.ntmps39
    go_wp2_with fail
    refine F1.out.mono ?_
    rintro e w1 ⟨rfl, hb⟩
    have HB := Lib.hid (hb.alloc hb.size (.cells #[] 3))
    have hsz := hb.size
    clear hb
    go_wp2
    go_ret2
    exact ⟨some ⟨w1.heap.size, 0, none⟩, w1.heap.size, 0, rfl, ⟨fun h => by simp [ints] at h, fun j x hx => by simp [ints] at hx⟩, fun h => by simp [ints] at h, fun j hj => by simp [ints] at hj, HB.out⟩
  have hv := goodJ_iff.1 hgd
  obtain ⟨m, hm⟩ : ∃ m : Nat, n = (m : Int) := ⟨n.toNat, by have := hv.n0; omega⟩
  have HR : Hid (ldR n l = loads m l) := Lib.hid (by unfold ldR; rw [if_pos hgd, hm, Int.toNat_natCast])
  rw [hgd] at F1
  rw [HR.out, hgd]
  subst hm
  have F2 := Lib.hid fun W hb => sLoads_any m a g c l W (hs.below (w' := W) hb) hv
  clear hgd hs hv
  go_enter Try.func39, Try.ntmps39
  go_wp2_with fail
  refine F1.out.mono ?_
  rintro e w1 ⟨rfl, hb⟩
  have HB := Lib.hid hb
  clear hb
  go_wp2_with fail
  refine (F2.out _ HB.out).mono ?_
  rintro e w2 ⟨⟨R, c', rfl, hsr, hR, hf⟩, hb⟩
  have HB2 := Lib.hid (HB.out.trans (hb.mono HB.out.size))
  have HQ := Lib.hid (And.intro hsr (And.intro (Nat.le_trans HB.out.size hR) hf))
  clear hb hsr hR hf
  go_wp2
  go_ret2
  exact ⟨some ⟨R, 0, none⟩, R, c', by rw [loads_len]; rfl, HQ.out.1, fun _ => HQ.out.2.1, fun j _ => HQ.out.2.2 j, HB2.out⟩
theorem loadsOf_both (n : Int) (l : List Jb) (hl : l.length ≤ 1048576) (hi : ∀ j ∈ l, JbIn j) (wn : (Lit.int .i64 n).wf = true) : ∃ (y : List Nat) (R1 : Bool), y.length ≤ 1048576 ∧
    Hid (∀ W a g c, SrcV W a g (jbs l) → Calls Try.prog 39 #[.int .i64 n, .slice a l.length c] W (SeqOut (ints y) y.length R1 W)) ∧
    Hid (∀ W a g c, SrcV W a g (jbs l) → Calls Try.prog 40 #[.int .i64 n, .slice a l.length c] W (SeqOut (ints y) y.length R1 W)) :=
  ⟨ldR n l, goodJ n l, Nat.le_trans ldR_len (by decide), Lib.hid fun W a g c hs => sLoadsOf_any n a g c l W hs hl, Lib.hid fun W a g c hs => loadsP_any n a g c l W hs hl⟩
end Go.Proofs.Ytiialbnfgichhaa
