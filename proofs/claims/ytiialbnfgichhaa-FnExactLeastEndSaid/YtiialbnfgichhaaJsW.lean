/-
  areJobs of the program, l10Good of the model: which lists of jobs are valid. Used by the claims on chapter 10.
-/
import Derived.Test.YtiialbnfgichhaaIjW
namespace Go.Proofs.Ytiialbnfgichhaa
open Go.RowKit
set_option linter.unusedVariables false
theorem srcJ_at {W : World} {a : Option Addr} {g : Nat} {l : List Jb} (h : SrcV W a g (jbs l)) {k : Nat} (hk : k < l.length) : W.cell? ⟨g, k * 4, none⟩ = some (.int .i64 (l[k]).fr) ∧ W.cell? ⟨g, k * 4 + 1, none⟩ = some (.int .i64 (l[k]).to) ∧ W.cell? ⟨g, k * 4 + 2, none⟩ = some (.int .i64 (l[k]).sp) ∧ W.cell? ⟨g, k * 4 + 3, none⟩ = some (.int .i64 (l[k]).st) :=
  ⟨h.2 _ _ (jbs_at hk).1, h.2 _ _ (jbs_at hk).2.1, h.2 _ _ (jbs_at hk).2.2.1, h.2 _ _ (jbs_at hk).2.2.2⟩
theorem all_upto {n : Int} {l : List Jb} (h : ∀ j (hj : j < l.length), j < l.length → jobOk n l[j] = true) : l.all (jobOk n) = true := List.all_eq_true.2 fun x hx => by
  obtain ⟨j, hj, rfl⟩ := List.getElem_of_mem hx
  exact h j hj hj

set_option maxHeartbeats 4000000 in
set_option maxRecDepth 8000 in
theorem areJobs_any (n : Int) (a : Option Addr) (g c : Nat) (l : List Jb) (w : World) (hs : SrcV w a g (jbs l)) (hl : l.length ≤ 1048576) :
    Calls Try.prog 69 #[.int .i64 n, .slice a l.length c] w fun e w' => e = .returned (.bool (goodJ n l)) ∧ Below w.heap.size w w' := by
  have HS := Lib.hid fun W hb => hs.below (w' := W) hb
  have HX := Lib.hid hs.1
  have F1 := Lib.hid fun W => iRow_any n W
  clear hs
  by_cases hr : rowOk n = true
  rotate_left
  · have hr2 : rowOk n = false := by simpa using hr
    have HG : Hid (goodJ n l = false) := Lib.hid (by unfold goodJ; rw [hr2, Bool.false_and])
    rw [HG.out]
    rw [hr2] at F1
    clear hr hr2
    go_enter Try.func69, Try.ntmps69
    go_wp2_with fail
    refine (F1.out _).mono ?_
    rintro e w1 ⟨rfl, hww⟩
    obtain rfl := hww.symm
    go_wp2
    go_ret
    exact ⟨rfl, Below.refl _ _⟩
  have F2 := Lib.hid fun j W => isJob_any n (rowOk_iff.1 hr).1 (rowOk_iff.1 hr).2 j W
  have HGo : Hid (goodJ n l = (decide (l.length ≤ 5) && l.all (jobOk n))) := Lib.hid (by unfold goodJ; rw [hr, Bool.true_and])
  rw [HGo.out]
  rw [hr] at F1
  clear hr
  by_cases h5 : l.length ≤ 5
  rotate_left
  · have HG : Hid ((decide (l.length ≤ 5) && l.all (jobOk n)) = false) := Lib.hid (by rw [decide_eq_false h5, Bool.false_and])
    rw [HG.out]
    have h6 : (5 : Int) < (l.length : Int) := by omega
    have h7 : decide ((5 : Int) < (l.length : Int)) = true := decide_eq_true h6
    have h8 : decide (5 < l.length) = true := decide_eq_true (by omega)
    clear h5
    go_enter Try.func69, Try.ntmps69
    go_wp2_with fail
    refine (F1.out _).mono ?_
    rintro e w1 ⟨rfl, hww⟩
    obtain rfl := hww.symm
    go_wp2
    go_ret
    exact ⟨rfl, Below.refl _ _⟩
  have HG : Hid ((decide (l.length ≤ 5) && l.all (jobOk n)) = l.all (jobOk n)) := Lib.hid (by rw [decide_eq_true h5, Bool.true_and])
  rw [HG.out]
  have h6 : ¬ (5 : Int) < (l.length : Int) := by omega
  have h7 : decide ((5 : Int) < (l.length : Int)) = false := decide_eq_false h6
  have h8 : decide (5 < l.length) = false := decide_eq_false (by omega)
  go_enter Try.func69, Try.ntmps69
  go_wp2_with fail
  refine (F1.out _).mono ?_
  rintro e w1 ⟨rfl, hww⟩
  obtain rfl := hww.symm
  go_wp2_with fail
  go_loopw [17] (fun v wr => ∃ k : Nat, v = .int .i64 (k : Int) ∧ k ≤ l.length ∧ Hid (∀ j (hj : j < l.length), j < k → jobOk n l[j] = true) ∧ Hid (Below w.heap.size w wr)) (fun v _ => l.length - (intOf v).toNat)
  case atStart => exact ⟨0, rfl, Nat.zero_le _, Lib.hid (fun j _ hj => by omega), Lib.hid (Below.refl _ _)⟩
  case round =>
    obtain ⟨k, rfl, hk, HN, HB⟩ := hrel
    by_cases hlt : k < l.length
    rotate_left
    · obtain rfl : k = l.length := by omega
      have HA : Hid (l.all (jobOk n) = true) := Lib.hid (all_upto HN.out)
      go_wp2
      go_ret
      exact ⟨by rw [HA.out]; rfl, HB.out⟩
    obtain rfl := HX.out (by rw [jbs_len]; omega)
    obtain ⟨q0, q1, q2, q3⟩ := srcJ_at (HS.out wr HB.out) hlt
    have HNk : Hid (jobOk n l[k] = true → ∀ j (hj : j < l.length), j < k + 1 → jobOk n l[j] = true) := Lib.hid (fun hc j hj hjk => by
      by_cases e : j = k
      · subst e; exact hc
      · exact HN.out j hj (by omega))
    have HF : Hid (jobOk n l[k] = false → l.all (jobOk n) = false) := Lib.hid (fun hc => by
      rw [List.all_eq_false]
      exact ⟨_, List.getElem_mem hlt, by rw [hc]; simp⟩)
    have i0 : (0 : Int) ≤ (k : Int) := by omega
    have i1 : (k : Int) < (l.length : Int) := by omega
    have HJ := Lib.hid (F2.out l[k])
    generalize l[k] = x at q0 q1 q2 q3 HNk HF HJ
    clear HN

    have hT := jbB_new 26 wr x
    have c0 := hT.cell0
    have c1 := hT.cell1
    have c2 := hT.cell2
    have c3 := hT.cell3
    have HB1 := Lib.hid (HB.out.alloc HB.out.size (.cells #[.int .i64 x.fr, .int .i64 x.to, .int .i64 x.sp, .int .i64 x.st] 26))
    clear hT
    generalize jobOk n x = b at HNk HF HJ
    cases b with
    | false =>
      have HR := Lib.hid (HF.out rfl)
      go_wp2_with fail
      refine (HJ.out _).mono ?_
      rintro e w2 ⟨rfl, hb⟩
      have HB2 := Lib.hid (HB1.out.trans (hb.mono HB1.out.size))
      clear hb
      go_wp2
      go_ret
      exact ⟨by rw [HR.out]; rfl, HB2.out⟩
    | true =>
      go_wp2_with fail
      refine (HJ.out _).mono ?_
      rintro e w2 ⟨rfl, hb⟩
      have HB2 := Lib.hid (HB1.out.trans (hb.mono HB1.out.size))
      clear hb
      go_wp2
      go_roundw
      case rel => exact ⟨k + 1, by go_num, by omega, Lib.hid (HNk.out (by trivial)), HB2⟩
      case measure => simp [intOf]; omega

set_option maxHeartbeats 4000000 in
set_option maxRecDepth 8000 in
theorem sGoodJ_any (n : Int) (a : Option Addr) (g c : Nat) (l : List Jb) (w : World) (hs : SrcV w a g (jbs l)) (hl : l.length ≤ 1048576) :
    Calls Try.prog 66 #[.int .i64 n, .slice a l.length c] w fun e w' => e = .returned (.bool (goodJ n l)) ∧ Below w.heap.size w w' := by
  have HS := Lib.hid fun W hb => hs.below (w' := W) hb
  have HX := Lib.hid hs.1
  have F1 := Lib.hid fun W => sRow_any n W
  clear hs
  by_cases hr : rowOk n = true
  rotate_left
  · have hr2 : rowOk n = false := by simpa using hr
    have HG : Hid (goodJ n l = false) := Lib.hid (by unfold goodJ; rw [hr2, Bool.false_and])
    rw [HG.out]
    rw [hr2] at F1
    clear hr hr2
    go_enter Try.func66, Try.ntmps66
    go_wp2_with fail
    refine (F1.out _).mono ?_
    rintro e w1 ⟨rfl, hww⟩
    obtain rfl := hww.symm
    go_wp2
    go_ret
    exact ⟨rfl, Below.refl _ _⟩
  have F2 := Lib.hid fun j W => sJob_any n (rowOk_iff.1 hr).1 (rowOk_iff.1 hr).2 j W
  have HGo : Hid (goodJ n l = (decide (l.length ≤ 5) && l.all (jobOk n))) := Lib.hid (by unfold goodJ; rw [hr, Bool.true_and])
  rw [HGo.out]
  rw [hr] at F1
  clear hr
  by_cases h5 : l.length ≤ 5
  rotate_left
  · have HG : Hid ((decide (l.length ≤ 5) && l.all (jobOk n)) = false) := Lib.hid (by rw [decide_eq_false h5, Bool.false_and])
    rw [HG.out]
    have h6 : (5 : Int) < (l.length : Int) := by omega
    have h7 : decide ((5 : Int) < (l.length : Int)) = true := decide_eq_true h6
    have h8 : decide (5 < l.length) = true := decide_eq_true (by omega)
    clear h5
    go_enter Try.func66, Try.ntmps66
    go_wp2_with fail
    refine (F1.out _).mono ?_
    rintro e w1 ⟨rfl, hww⟩
    obtain rfl := hww.symm
    go_wp2
    go_ret
    exact ⟨rfl, Below.refl _ _⟩
  have HG : Hid ((decide (l.length ≤ 5) && l.all (jobOk n)) = l.all (jobOk n)) := Lib.hid (by rw [decide_eq_true h5, Bool.true_and])
  rw [HG.out]
  have h6 : ¬ (5 : Int) < (l.length : Int) := by omega
  have h7 : decide ((5 : Int) < (l.length : Int)) = false := decide_eq_false h6
  have h8 : decide (5 < l.length) = false := decide_eq_false (by omega)
  go_enter Try.func66, Try.ntmps66
  go_wp2_with fail
  refine (F1.out _).mono ?_
  rintro e w1 ⟨rfl, hww⟩
  obtain rfl := hww.symm
  go_wp2_with fail
  go_loopw [5] (fun v wr => ∃ k : Nat, v = .int .i64 (k : Int) ∧ k ≤ l.length ∧ Hid (∀ j (hj : j < l.length), j < k → jobOk n l[j] = true) ∧ Hid (Below w.heap.size w wr)) (fun v _ => l.length - (intOf v).toNat)
  case atStart => exact ⟨0, rfl, Nat.zero_le _, Lib.hid (fun j _ hj => by omega), Lib.hid (Below.refl _ _)⟩
  case round =>
    obtain ⟨k, rfl, hk, HN, HB⟩ := hrel
    by_cases hlt : k < l.length
    rotate_left
    · obtain rfl : k = l.length := by omega
      have HA : Hid (l.all (jobOk n) = true) := Lib.hid (all_upto HN.out)
      go_wp2
      go_ret
      exact ⟨by rw [HA.out]; rfl, HB.out⟩
    obtain rfl := HX.out (by rw [jbs_len]; omega)
    obtain ⟨q0, q1, q2, q3⟩ := srcJ_at (HS.out wr HB.out) hlt
    have HNk : Hid (jobOk n l[k] = true → ∀ j (hj : j < l.length), j < k + 1 → jobOk n l[j] = true) := Lib.hid (fun hc j hj hjk => by
      by_cases e : j = k
      · subst e; exact hc
      · exact HN.out j hj (by omega))
    have HF : Hid (jobOk n l[k] = false → l.all (jobOk n) = false) := Lib.hid (fun hc => by
      rw [List.all_eq_false]
      exact ⟨_, List.getElem_mem hlt, by rw [hc]; simp⟩)
    have i0 : (0 : Int) ≤ (k : Int) := by omega
    have i1 : (k : Int) < (l.length : Int) := by omega
    have HJ := Lib.hid (F2.out l[k])
    generalize l[k] = x at q0 q1 q2 q3 HNk HF HJ
    clear HN

    have HB1 := HB
    generalize jobOk n x = b at HNk HF HJ
    cases b with
    | false =>
      have HR := Lib.hid (HF.out rfl)
      go_wp2_with fail
      refine (HJ.out _).mono ?_
      rintro e w2 ⟨rfl, hb⟩
      have HB2 := Lib.hid (HB1.out.trans (hb.mono HB1.out.size))
      clear hb
      go_wp2
      go_ret
      exact ⟨by rw [HR.out]; rfl, HB2.out⟩
    | true =>
      go_wp2_with fail
      refine (HJ.out _).mono ?_
      rintro e w2 ⟨rfl, hb⟩
      have HB2 := Lib.hid (HB1.out.trans (hb.mono HB1.out.size))
      clear hb
      go_wp2
      go_roundw
      case rel => exact ⟨k + 1, by go_num, by omega, Lib.hid (HNk.out (by trivial)), HB2⟩
      case measure => simp [intOf]; omega

end Go.Proofs.Ytiialbnfgichhaa
