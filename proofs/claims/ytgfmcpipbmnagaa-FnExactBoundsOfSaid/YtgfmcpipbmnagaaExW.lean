/-
  The runs of a signal: runsOfSignal of the program, l5Exact of the model. Used by the claims on chapter 5.
-/
import Derived.Test.YtgfmcpipbmnagaaExL
import Derived.Test.YtgfmcpipbmnagaaTimeW
import Derived.Test.YtgfmcpipbmnagaaMadW
import Derived.Deep.AppendLies
namespace Go.Proofs.Ytgfmcpipbmnagaa
open Go.RowKit
set_option linter.unusedVariables false

theorem app_pairs (n : Nat) (h : n ≤ 1048576) : n + 1 ≤ maxLen ∧ (n + 1) * 16 ≤ 140737488355328 ∧ n + 1 + 1 ≤ maxLen ∧ (n + 1 + 1) * 16 ≤ 140737488355328 := by
  unfold maxLen; omega
theorem sig_short {s : ByteArray} {ps : List Bs} (h : pieces (bl s) = some ps) : s.size ≤ 72 := by
  by_cases h0 : bl s = []
  · rw [← bl_len, h0]; simp
  · rw [pieces_words _ h0] at h
    split at h
    · next hc => rw [← bl_len]; exact hc.1
    · cases h
set_option maxHeartbeats 8000000 in
set_option maxRecDepth 8000 in
theorem runsSig_any (s : ByteArray) (w : World) (ps : List Bs) (hps : pieces (bl s) = some ps) :
    Calls Try.prog 54 #[.string s] w fun e w' => ∃ v, e = .returned v ∧ w'.ownsRow w.heap.size 59 2 v (rsL (bl s)).length (prs (rsL (bl s))) ∧ Below w.heap.size w w' := by
  obtain ⟨i0, hi, hz0, hz1, hz2⟩ := info_parts infoPair
  have HSg := Lib.hid (pieces_signs hps)
  have hs := sig_short hps
  have HL : Hid (rsL (bl s) = rsTo (bl s) s.size) := Lib.hid (by rw [rsL, bl_len])
  have M0 : Hid ((w.alloc (Obj.cells #[] 59)).ownsRow w.heap.size 59 2 (.slice (some ⟨w.heap.size, 0, none⟩) 0 0) ([] : List (Nat × Nat)).length (prs [])) := Lib.hid (World.ownsRow_made (base := w.heap.size) (e := 59) (size := 2) w #[] 0 (Nat.le_refl _) (by unfold maxLen; omega) rfl)
  clear hps
  go_enter Try.func54, Try.ntmps54
  go_wp2
  go_loopw [3, 4] (fun v bfv wr => ∃ (pos bf : Nat) (rs : List (Nat × Nat)), bfv = .int .i32 bf ∧ bf ≤ 2147483647 ∧ pos ≤ s.size ∧ wr.heap[w.heap.size + 1]? = some (.stringIter s pos) ∧ wr.ownsRow w.heap.size 59 2 v rs.length (prs rs) ∧ rs.length ≤ 2 * pos ∧ Hid (rs = rsTo (bl s) pos) ∧ Hid (decide (bf = 46 ∨ bf = 45) = bfMk (bl s) pos) ∧ Hid (Below w.heap.size w wr)) (fun _ _ wr => s.size - wr.iterPos (w.heap.size + 1))
  case atStart =>
    have hit := World.iter_heap (w.alloc (.cells #[] 59)) s 0
    exact ⟨0, 32, [], rfl, by omega, Nat.zero_le _, by simpa using hit, M0.out.alloc _, Nat.zero_le _, Lib.hid rfl, Lib.hid rfl, Lib.hid ((below_alloc _ _).alloc (by simp) _)⟩
  case round =>
    obtain ⟨pos, bf, rs, rfl, hbf, hp, hit, hown, hrs, HR, HBf, HB⟩ := hrel
    obtain ⟨av, capv, rfl⟩ := row_form hown
    have HP := Lib.hid (iterPos_of hit)
    by_cases hlt : pos < s.size
    · obtain ⟨r, wd, hde, hr, hwd, hcase⟩ := sign_at s pos hlt
      have hnx : ∀ ty, (Instr.next (.pointer (some ⟨w.heap.size + 1, 0, none⟩)) true ty).run Try.prog wr = _ := fun ty => Lib.run_next_any_at wr (w.heap.size + 1) s pos ty hit hlt
      have hit2 := Lib.iterAt_heap wr (w.heap.size + 1) s pos (pos + wd) hit
      have hown2 := row_iter hown hit (pos + wd)
      have HB2 : Hid (Below w.heap.size w (wr.iterAt (w.heap.size + 1) s (pos + wd))) := Lib.hid (Lib.below_iterAt HB.out (k := w.heap.size + 1) (by omega) s (pos + wd))
      rw [hde] at hnx
      simp only at hnx
      have HBy := Lib.hid (bl_at s pos hlt)
      have HC : Hid (r = s[pos].toNat ∧ wd = 1) := Lib.hid (by
        rcases hcase with ⟨_, h2, h3⟩ | ⟨_, h2⟩
        · exact ⟨h2, h3⟩
        · exfalso
          rcases HSg.out _ (List.mem_of_getElem? HBy.out) with h | h | h
          · rw [mk_iff] at h; simp only [decide_eq_true_eq] at h; omega
          · rw [h] at h2; exact absurd h2 (by decide)
          · rw [h] at h2; exact absurd h2 (by decide))
      obtain ⟨W1, hW1⟩ : ∃ W1, W1 = wr.iterAt (w.heap.size + 1) s (pos + wd) := ⟨_, rfl⟩
      rw [← hW1] at hnx hit2 HB2 hown2
      have HIb := Lib.hid fun w => isMark_at bf hbf w
      have HIs := Lib.hid fun w => isMark_at r hr w
      have HT := Lib.hid fun w => timeSign_at r hr w
      obtain ⟨z, hz⟩ : ∃ z, z = sgR r := ⟨_, rfl⟩
      have HZ : Hid (z = sg s[pos]) := Lib.hid (by rw [hz, HC.out.1, sgR_sg])
      have HT2 := Lib.hid fun w => val_eqS (v' := .int .i64 z) (HT.out w) (by rw [hz])
      have HWd := Lib.hid hwd
      have HMk : Hid (isMk s[pos] = decide (r = 46 ∨ r = 45)) := Lib.hid (by rw [mk_iff, HC.out.1])
      have HN0 : Hid (rsTo (bl s) (pos + 1) = rs ++ (if (decide (bf = 46 ∨ bf = 45) && decide (r = 46 ∨ r = 45)) = true then [(0, 1)] else []) ++ [(if decide (r = 46 ∨ r = 45) = true then 1 else 0, z)]) := Lib.hid (by rw [rsTo_succ HBy.out, ← HR.out, HMk.out, ← HBf.out, ← HZ.out])
      have HPn : Hid (decide (r = 46 ∨ r = 45) = bfMk (bl s) (pos + wd)) := Lib.hid (by rw [HC.out.2, bfMk_succ HBy.out, HMk.out])
      have HPl : Hid (pos + wd = pos + 1) := Lib.hid (by have := HC.out.2; omega)
      have HLt : Hid (pos + wd ≤ s.size) := Lib.hid (by have := HC.out.2; omega)
      have HLn : Hid ((rsTo (bl s) (pos + 1)).length ≤ 2 * (pos + wd)) := Lib.hid (by rw [HPl.out]; exact rsTo_len _ _)
      have HOl : Hid (∀ q, (Value.slice av rs.length capv).ownBlock = some q → w.heap.size ≤ q ∧ q < W1.heap.size) := Lib.hid hown2.lt
      obtain ⟨a1, a2, a3, a4⟩ := app_pairs rs.length (by omega)
      have hsz := HB2.out.size
      clear hW1 hit hde hcase hwd hz HT HBy hown
      by_cases hb : bf = 46 ∨ bf = 45
      · have HIb2 := Lib.hid fun w => val_eqS (v' := .bool true) (HIb.out w) (by simp [hb])
        by_cases hm : r = 46 ∨ r = 45
        · have HIs2 := Lib.hid fun w => val_eqS (v' := .bool true) (HIs.out w) (by simp [hm])
          have HN : Hid (rsTo (bl s) (pos + 1) = rs ++ [(0, 1)] ++ [(1, z)]) := Lib.hid (by rw [HN0.out]; simp [hb, hm])
          clear hb hm HIb HIs HN0
          go_wp2_with fail
          refine (HIb2.out _).mono ?_
          rintro e w2 ⟨rfl, hww⟩
          obtain rfl := hww.symm
          go_wp2_with fail
          refine (HIs2.out _).mono ?_
          rintro e w2 ⟨rfl, hww⟩
          obtain rfl := hww.symm
          go_wp2_with (at_builtin; refine wpList_append_own _ rfl _ _ 35 rfl w.heap.size 59 i0 (.agg #[.int .i64 0, .int .i64 0]) 2 16 Try.underlying35 hi hz0 hz1 hz2 rfl (by decide) _ _ _ rfl (hown2.alloc _) ⟨W1.heap.size, 0, none⟩ 1 1 [.int .i64 0, .int .i64 1] rfl rfl (cell_two_new _ _ _ _) (by simp [Value.oneCell']) a1 a2 (Nat.le_trans HB2.out.size (below_alloc W1 _).size) ?_; intro v5 w5 hownN hgrow _)
          have hownw5 : w5.ownsRow w.heap.size 59 2 v5 (rs.length + 1) (prs (rs ++ [(0, 1)])) := by rw [prs_snoc]; exact hownN
          have HBw5 : Hid (Below w.heap.size w w5) := Lib.hid ((HB2.out.alloc HB2.out.size _).grown hgrow (Nat.le_trans HB2.out.size (below_alloc W1 _).size) (fun q e => (HOl.out q e).1))
          have hit5 := iter_grown hown2 hit2 hgrow
          clear hownN hgrow hown2 hit2
          obtain ⟨av5, capv5, rfl⟩ := row_form hownw5
          have HOl5 : Hid (∀ q, (Value.slice av5 (rs.length + 1) capv5).ownBlock = some q → w.heap.size ≤ q ∧ q < w5.heap.size) := Lib.hid hownw5.lt
          refine (HIs2.out _).mono ?_
          rintro e w2 ⟨rfl, hww⟩
          obtain rfl := hww.symm
          go_wp2_with fail
          refine (HT2.out _).mono ?_
          rintro e w2 ⟨rfl, hww⟩
          obtain rfl := hww.symm
          go_wp2_with (at_builtin; refine wpList_append_own _ rfl _ _ 35 rfl w.heap.size 59 i0 (.agg #[.int .i64 0, .int .i64 0]) 2 16 Try.underlying35 hi hz0 hz1 hz2 rfl (by decide) _ _ _ rfl (hownw5.alloc _) ⟨w5.heap.size, 0, none⟩ 1 1 [.int .i64 1, .int .i64 (z : Int)] rfl rfl (cell_two_new _ _ _ _) (by simp [Value.oneCell']) a3 a4 (Nat.le_trans HBw5.out.size (below_alloc w5 _).size) ?_; intro v6 w6 hownN hgrow _)
          have hownw6 : w6.ownsRow w.heap.size 59 2 v6 (rs.length + 1 + 1) (prs (rs ++ [(0, 1)] ++ [(1, z)])) := by rw [prs_snoc]; exact hownN
          have HBw6 : Hid (Below w.heap.size w w6) := Lib.hid ((HBw5.out.alloc HBw5.out.size _).grown hgrow (Nat.le_trans HBw5.out.size (below_alloc w5 _).size) (fun q e => (HOl5.out q e).1))
          have hit6 := iter_grown hownw5 hit5 hgrow
          clear hownN hgrow hownw5 hit5
          have HW6 : Hid (w6.ownsRow w.heap.size 59 2 v6 (rsTo (bl s) (pos + 1)).length (prs (rsTo (bl s) (pos + 1)))) := Lib.hid (by
            have e : (rs ++ [(0, 1)] ++ [(1, z)]).length = rs.length + 1 + 1 := by simp
            rw [HN.out, e]; exact hownw6)
          clear hownw6 a1 a2 a3 a4 hsz
          go_wp2
          go_roundw
          case rel => exact ⟨pos + wd, r, rsTo (bl s) (pos + 1), rfl, by omega, HLt.out, hit6, HW6.out, HLn.out, Lib.hid (by rw [HPl.out]), HPn, HBw6⟩
          case measure => rw [iterPos_of hit6, HP.out]; have := HWd.out; omega
        · have HIs2 := Lib.hid fun w => val_eqS (v' := .bool false) (HIs.out w) (by simp [hm])
          have HN : Hid (rsTo (bl s) (pos + 1) = rs ++ [(0, z)]) := Lib.hid (by rw [HN0.out]; simp [hb, hm])
          clear hb hm HIb HIs HN0
          go_wp2_with fail
          refine (HIb2.out _).mono ?_
          rintro e w2 ⟨rfl, hww⟩
          obtain rfl := hww.symm
          go_wp2_with fail
          refine (HIs2.out _).mono ?_
          rintro e w2 ⟨rfl, hww⟩
          obtain rfl := hww.symm
          go_wp2_with fail
          refine (HIs2.out _).mono ?_
          rintro e w2 ⟨rfl, hww⟩
          obtain rfl := hww.symm
          go_wp2_with fail
          refine (HT2.out _).mono ?_
          rintro e w2 ⟨rfl, hww⟩
          obtain rfl := hww.symm
          go_wp2_with (at_builtin; refine wpList_append_own _ rfl _ _ 35 rfl w.heap.size 59 i0 (.agg #[.int .i64 0, .int .i64 0]) 2 16 Try.underlying35 hi hz0 hz1 hz2 rfl (by decide) _ _ _ rfl (hown2.alloc _) ⟨W1.heap.size, 0, none⟩ 1 1 [.int .i64 0, .int .i64 (z : Int)] rfl rfl (cell_two_new _ _ _ _) (by simp [Value.oneCell']) a1 a2 (Nat.le_trans HB2.out.size (below_alloc W1 _).size) ?_; intro v6 w6 hownN hgrow _)
          have hownw6 : w6.ownsRow w.heap.size 59 2 v6 (rs.length + 1) (prs (rs ++ [(0, z)])) := by rw [prs_snoc]; exact hownN
          have HBw6 : Hid (Below w.heap.size w w6) := Lib.hid ((HB2.out.alloc HB2.out.size _).grown hgrow (Nat.le_trans HB2.out.size (below_alloc W1 _).size) (fun q e => (HOl.out q e).1))
          have hit6 := iter_grown hown2 hit2 hgrow
          clear hownN hgrow hown2 hit2
          have HW6 : Hid (w6.ownsRow w.heap.size 59 2 v6 (rsTo (bl s) (pos + 1)).length (prs (rsTo (bl s) (pos + 1)))) := Lib.hid (by
            have e : (rs ++ [(0, z)]).length = rs.length + 1 := by simp
            rw [HN.out, e]; exact hownw6)
          clear hownw6 a1 a2 a3 a4 hsz
          go_wp2
          go_roundw
          case rel => exact ⟨pos + wd, r, rsTo (bl s) (pos + 1), rfl, by omega, HLt.out, hit6, HW6.out, HLn.out, Lib.hid (by rw [HPl.out]), HPn, HBw6⟩
          case measure => rw [iterPos_of hit6, HP.out]; have := HWd.out; omega
      · have HIb2 := Lib.hid fun w => val_eqS (v' := .bool false) (HIb.out w) (by simp [hb])
        by_cases hm : r = 46 ∨ r = 45
        · have HIs2 := Lib.hid fun w => val_eqS (v' := .bool true) (HIs.out w) (by simp [hm])
          have HN : Hid (rsTo (bl s) (pos + 1) = rs ++ [(1, z)]) := Lib.hid (by rw [HN0.out]; simp [hb, hm])
          clear hb hm HIb HIs HN0
          go_wp2_with fail
          refine (HIb2.out _).mono ?_
          rintro e w2 ⟨rfl, hww⟩
          obtain rfl := hww.symm
          go_wp2_with fail
          refine (HIs2.out _).mono ?_
          rintro e w2 ⟨rfl, hww⟩
          obtain rfl := hww.symm
          go_wp2_with fail
          refine (HT2.out _).mono ?_
          rintro e w2 ⟨rfl, hww⟩
          obtain rfl := hww.symm
          go_wp2_with (at_builtin; refine wpList_append_own _ rfl _ _ 35 rfl w.heap.size 59 i0 (.agg #[.int .i64 0, .int .i64 0]) 2 16 Try.underlying35 hi hz0 hz1 hz2 rfl (by decide) _ _ _ rfl (hown2.alloc _) ⟨W1.heap.size, 0, none⟩ 1 1 [.int .i64 1, .int .i64 (z : Int)] rfl rfl (cell_two_new _ _ _ _) (by simp [Value.oneCell']) a1 a2 (Nat.le_trans HB2.out.size (below_alloc W1 _).size) ?_; intro v6 w6 hownN hgrow _)
          have hownw6 : w6.ownsRow w.heap.size 59 2 v6 (rs.length + 1) (prs (rs ++ [(1, z)])) := by rw [prs_snoc]; exact hownN
          have HBw6 : Hid (Below w.heap.size w w6) := Lib.hid ((HB2.out.alloc HB2.out.size _).grown hgrow (Nat.le_trans HB2.out.size (below_alloc W1 _).size) (fun q e => (HOl.out q e).1))
          have hit6 := iter_grown hown2 hit2 hgrow
          clear hownN hgrow hown2 hit2
          have HW6 : Hid (w6.ownsRow w.heap.size 59 2 v6 (rsTo (bl s) (pos + 1)).length (prs (rsTo (bl s) (pos + 1)))) := Lib.hid (by
            have e : (rs ++ [(1, z)]).length = rs.length + 1 := by simp
            rw [HN.out, e]; exact hownw6)
          clear hownw6 a1 a2 a3 a4 hsz
          go_wp2
          go_roundw
          case rel => exact ⟨pos + wd, r, rsTo (bl s) (pos + 1), rfl, by omega, HLt.out, hit6, HW6.out, HLn.out, Lib.hid (by rw [HPl.out]), HPn, HBw6⟩
          case measure => rw [iterPos_of hit6, HP.out]; have := HWd.out; omega
        · have HIs2 := Lib.hid fun w => val_eqS (v' := .bool false) (HIs.out w) (by simp [hm])
          have HN : Hid (rsTo (bl s) (pos + 1) = rs ++ [(0, z)]) := Lib.hid (by rw [HN0.out]; simp [hb, hm])
          clear hb hm HIb HIs HN0
          go_wp2_with fail
          refine (HIb2.out _).mono ?_
          rintro e w2 ⟨rfl, hww⟩
          obtain rfl := hww.symm
          go_wp2_with fail
          refine (HIs2.out _).mono ?_
          rintro e w2 ⟨rfl, hww⟩
          obtain rfl := hww.symm
          go_wp2_with fail
          refine (HT2.out _).mono ?_
          rintro e w2 ⟨rfl, hww⟩
          obtain rfl := hww.symm
          go_wp2_with (at_builtin; refine wpList_append_own _ rfl _ _ 35 rfl w.heap.size 59 i0 (.agg #[.int .i64 0, .int .i64 0]) 2 16 Try.underlying35 hi hz0 hz1 hz2 rfl (by decide) _ _ _ rfl (hown2.alloc _) ⟨W1.heap.size, 0, none⟩ 1 1 [.int .i64 0, .int .i64 (z : Int)] rfl rfl (cell_two_new _ _ _ _) (by simp [Value.oneCell']) a1 a2 (Nat.le_trans HB2.out.size (below_alloc W1 _).size) ?_; intro v6 w6 hownN hgrow _)
          have hownw6 : w6.ownsRow w.heap.size 59 2 v6 (rs.length + 1) (prs (rs ++ [(0, z)])) := by rw [prs_snoc]; exact hownN
          have HBw6 : Hid (Below w.heap.size w w6) := Lib.hid ((HB2.out.alloc HB2.out.size _).grown hgrow (Nat.le_trans HB2.out.size (below_alloc W1 _).size) (fun q e => (HOl.out q e).1))
          have hit6 := iter_grown hown2 hit2 hgrow
          clear hownN hgrow hown2 hit2
          have HW6 : Hid (w6.ownsRow w.heap.size 59 2 v6 (rsTo (bl s) (pos + 1)).length (prs (rsTo (bl s) (pos + 1)))) := Lib.hid (by
            have e : (rs ++ [(0, z)]).length = rs.length + 1 := by simp
            rw [HN.out, e]; exact hownw6)
          clear hownw6 a1 a2 a3 a4 hsz
          go_wp2
          go_roundw
          case rel => exact ⟨pos + wd, r, rsTo (bl s) (pos + 1), rfl, by omega, HLt.out, hit6, HW6.out, HLn.out, Lib.hid (by rw [HPl.out]), HPn, HBw6⟩
          case measure => rw [iterPos_of hit6, HP.out]; have := HWd.out; omega
    · have hnx : ∀ ty, (Instr.next (.pointer (some ⟨w.heap.size + 1, 0, none⟩)) true ty).run Try.prog wr = _ := fun ty => Lib.run_next_end_at wr (w.heap.size + 1) s pos ty hit hlt
      have HE : Hid (rsL (bl s) = rs) := Lib.hid (by rw [HL.out, HR.out]; congr 1; omega)
      have HO := Lib.hid hown
      clear hown
      go_wp2
      (first | go_ret | go_ret2)
      exact ⟨_, rfl, by rw [HE.out]; exact HO.out, HB.out⟩
end Go.Proofs.Ytgfmcpipbmnagaa
