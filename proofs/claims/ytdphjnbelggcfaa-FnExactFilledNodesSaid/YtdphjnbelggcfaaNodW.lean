/-
  The node of a text of marks: nodeOf and NodeOfMarks of the program, l9Node and NodeOfMarks of the model: both answer alike. Used by the claims on chapter 9.
-/
import Derived.Test.YtdphjnbelggcfaaNonW
import Derived.Test.YtdphjnbelggcfaaNodL
namespace Go.Proofs.Ytdphjnbelggcfaa
open Go.RowKit
set_option linter.unusedVariables false

theorem noneT_all {s : ByteArray} (h : noneT s = true) : (bl s).all isMk = true := by
  simp only [noneT, Bool.and_eq_true] at h; exact h.2
theorem nd_take (s : ByteArray) (k : Nat) (h : k < s.size) : nd ((bl s).take (k + 1)) = 2 * nd ((bl s).take k) + bit s[k] := by
  rw [List.take_add_one, bl_at s k h]; exact nd_snoc _ _
theorem nd_take_le (s : ByteArray) (k : Nat) (h : k ≤ 4) : nd ((bl s).take k) ≤ 31 := by
  have h1 := (nd_pos ((bl s).take k)).2
  have h2 : ((bl s).take k).length ≤ 4 := by rw [List.length_take]; omega
  have h3 : 2 ^ (((bl s).take k).length + 1) ≤ 2 ^ 5 := Nat.pow_le_pow_right (by omega) (by omega)
  omega
theorem nodeOf_any (s : ByteArray) (w : World) (hs : noneT s = true) :
    Calls Try.prog 74 #[.string s] w fun e w' => e = .returned (.int .i64 ((nd (bl s) : Nat) : Int)) ∧ Below w.heap.size w w' := by
  have hsz := noneT_size hs
  have HM := Lib.hid (List.all_eq_true.1 (noneT_all hs))
  clear hs
  go_enter Try.func74, Try.ntmps74
  go_wp2
  go_loopw [3] (fun v wr => ∃ pos, v = .int .i64 ((nd ((bl s).take pos) : Nat) : Int) ∧ wr.heap[w.heap.size]? = some (.stringIter s pos) ∧ pos ≤ s.size ∧ Hid (Below w.heap.size w wr)) (fun _ wr => s.size - wr.iterPos w.heap.size)
  case atStart => exact ⟨0, rfl, World.iter_heap w s 0, Nat.zero_le _, (Below.refl _ _).alloc (Nat.le_refl _) _⟩
  case round =>
    obtain ⟨pos, rfl, hit, hp, HB⟩ := hrel
    have HP := Lib.hid (iterPos_of hit)
    by_cases hlt : pos < s.size
    · obtain ⟨r, wd, hde, hr, hwd, hcase⟩ := sign_at s pos hlt
      have hnx : ∀ ty, (Instr.next (.pointer (some ⟨w.heap.size, 0, none⟩)) true ty).run Try.prog wr = _ := fun ty => Lib.run_next_any_at wr w.heap.size s pos ty hit hlt
      have hit2 := Lib.iterAt_heap wr w.heap.size s pos (pos + wd) hit
      have HB2 : Hid (Below w.heap.size w (wr.iterAt w.heap.size s (pos + wd))) := Lib.hid (Lib.below_iterAt HB.out (k := w.heap.size) (Nat.le_refl _) s (pos + wd))
      rw [hde] at hnx
      simp only at hnx
      have hby := bl_at s pos hlt
      have hmk := HM.out _ (List.mem_of_getElem? hby)
      have HN := Lib.hid (nd_take s pos hlt)
      have hle := nd_take_le s pos (by omega)
      simp only [isMk, Bool.or_eq_true, beq_iff_eq] at hmk
      generalize nd ((bl s).take pos) = n0 at HN hle
      generalize s[pos] = ch at hmk HN hcase
      obtain ⟨W1, hW1⟩ : ∃ W1, W1 = wr.iterAt w.heap.size s (pos + wd) := ⟨_, rfl⟩
      rw [← hW1] at hnx hit2 HB2
      clear hW1 hit hde hby
      have hwd1 : wd = 1 := by
        rcases hcase with ⟨_, _, h⟩ | ⟨_, h⟩
        · exact h
        · rcases hmk with rfl | rfl <;> simp at h
      have hr1 : r = ch.toNat := by
        rcases hcase with ⟨_, h, _⟩ | ⟨_, h⟩
        · exact h
        · rcases hmk with rfl | rfl <;> simp at h
      subst hwd1
      clear hcase hwd
      rcases hmk with rfl | rfl
      · have hr2 : r = 46 := hr1
        subst hr2
        have HN2 : Hid (nd ((bl s).take (pos + 1)) = 2 * n0) := Lib.hid (by rw [HN.out]; rfl)
        clear hr1 hr HN
        go_wp2
        go_roundw
        case rel => exact ⟨pos + 1, by rw [HN2.out]; go_num, hit2, by omega, HB2⟩
        case measure => rw [iterPos_of hit2, HP.out]; omega
      · have hr2 : r = 45 := hr1
        subst hr2
        have HN2 : Hid (nd ((bl s).take (pos + 1)) = 2 * n0 + 1) := Lib.hid (by rw [HN.out]; rfl)
        clear hr1 hr HN
        go_wp2
        go_roundw
        case rel => exact ⟨pos + 1, by rw [HN2.out]; go_num, hit2, by omega, HB2⟩
        case measure => rw [iterPos_of hit2, HP.out]; omega
    · have hnx : ∀ ty, (Instr.next (.pointer (some ⟨w.heap.size, 0, none⟩)) true ty).run Try.prog wr = _ := fun ty => Lib.run_next_end_at wr w.heap.size s pos ty hit hlt
      have HE : Hid ((bl s).take pos = bl s) := Lib.hid (List.take_of_length_le (by rw [bl_len]; omega))
      rw [HE.out]
      go_wp2
      go_ret
      exact ⟨rfl, HB.out⟩

/-! ### The model's -/
theorem sNode_any (s : ByteArray) (w : World) (hs : noneT s = true) :
    Calls Try.prog 72 #[.string s] w fun e w' => e = .returned (.int .i64 ((nd (bl s) : Nat) : Int)) ∧ w' = w := by
  have hsz := noneT_size hs
  have HM := Lib.hid (List.all_eq_true.1 (noneT_all hs))
  clear hs
  go_enter Try.func72, Try.ntmps72
  go_wp2
  go_loopw [3, 4] (fun v i wr => ∃ k : Nat, i = .int .i64 (k : Int) ∧ v = .int .i64 ((nd ((bl s).take k) : Nat) : Int) ∧ k ≤ s.size ∧ wr = w) (fun _ i _ => s.size - (intOf i).toNat)
  case atStart => exact ⟨0, rfl, rfl, Nat.zero_le _, rfl⟩
  case round =>
    obtain ⟨k, rfl, rfl, hk, rfl⟩ := hrel
    by_cases hlt : k < s.size
    · have hby := bl_at s k hlt
      have hmk := HM.out _ (List.mem_of_getElem? hby)
      have HN := Lib.hid (nd_take s k hlt)
      have hle := nd_take_le s k (by omega)
      simp only [isMk, Bool.or_eq_true, beq_iff_eq] at hmk
      generalize nd ((bl s).take k) = n0 at HN hle
      clear hby
      rcases hmk with hc | hc
      · have e1 : ((s[k].toNat : Int) == 45) = false := by rw [hc]; rfl
        have HN2 : Hid (nd ((bl s).take (k + 1)) = 2 * n0) := Lib.hid (by rw [HN.out, hc]; rfl)
        clear hc HN
        go_wp2
        go_roundw
        case rel => exact ⟨k + 1, by go_num, by rw [HN2.out]; go_num, by omega, trivial⟩
        case measure => simp [intOf]; omega
      · have e1 : ((s[k].toNat : Int) == 45) = true := by rw [hc]; rfl
        have HN2 : Hid (nd ((bl s).take (k + 1)) = 2 * n0 + 1) := Lib.hid (by rw [HN.out, hc]; rfl)
        clear hc HN
        go_wp2
        go_roundw
        case rel => exact ⟨k + 1, by go_num, by rw [HN2.out]; go_num, by omega, trivial⟩
        case measure => simp [intOf]; omega
    · have HE : Hid ((bl s).take k = bl s) := Lib.hid (List.take_of_length_le (by rw [bl_len]; omega))
      rw [HE.out]
      go_wp2
      go_ret
      exact ⟨rfl, rfl⟩

/-! ### NodeOfMarks -/
def ndR (s : ByteArray) : Int := if noneT s = true then ((nd (bl s) : Nat) : Int) else 0
theorem nodeOfMarks_any (s : ByteArray) (w : World) (hs : s.size ≤ 1048576) :
    Calls Try.prog 21 #[.string s] w fun e w' => e = .returned (.tuple #[.int .i64 (ndR s), .bool (noneT s)]) ∧ Below w.heap.size w w' := by
  have F := Lib.hid fun w => none_any s w (by unfold maxLen; omega)
  by_cases ht : noneT s = true
  · have F2 := Lib.hid fun w => val_both (F.out w) ht
    have G := Lib.hid fun w => nodeOf_any s w ht
    have HR : Hid (ndR s = ((nd (bl s) : Nat) : Int)) := Lib.hid (if_pos ht)
    rw [HR.out, ht]
    clear ht F
    go_enter Try.func21, Try.ntmps21
    go_wp2_with fail
    refine (F2.out _).mono ?_
    rintro e w1 ⟨rfl, hb⟩
    have HB := Lib.hid hb
    clear hb
    go_wp2_with fail
    refine (G.out _).mono ?_
    rintro e w2 ⟨rfl, hb⟩
    have HB2 := Lib.hid (HB.out.trans (hb.mono HB.out.size))
    clear hb
    go_wp2
    go_ret2
    exact ⟨rfl, HB2.out⟩
  · have ht' : noneT s = false := by simpa using ht
    have F2 := Lib.hid fun w => val_both (F.out w) ht'
    have HR : Hid (ndR s = 0) := Lib.hid (if_neg ht)
    rw [HR.out, ht']
    clear ht ht' F
    go_enter Try.func21, Try.ntmps21
    go_wp2_with fail
    refine (F2.out _).mono ?_
    rintro e w1 ⟨rfl, hb⟩
    have HB := Lib.hid hb
    clear hb
    go_wp2
    go_ret2
    exact ⟨rfl, HB.out⟩
theorem sNodeOfMarks_any (s : ByteArray) (w : World) (hs : s.size ≤ 1048576) :
    Calls Try.prog 20 #[.string s] w fun e w' => e = .returned (.tuple #[.int .i64 (ndR s), .bool (noneT s)]) ∧ Below w.heap.size w w' := by
  have F := Lib.hid fun w => snone_any s w (by unfold maxLen; omega)
  by_cases ht : noneT s = true
  · have F2 := Lib.hid fun w => val_draw (F.out w) ht
    have G := Lib.hid fun w => sNode_any s w ht
    have HR : Hid (ndR s = ((nd (bl s) : Nat) : Int)) := Lib.hid (if_pos ht)
    rw [HR.out, ht]
    clear ht F
    go_enter Try.func20, Try.ntmps20
    go_wp2_with fail
    refine (F2.out _).mono ?_
    rintro e w1 ⟨rfl, q, rfl⟩
    go_wp2_with fail
    refine (G.out _).mono ?_
    rintro e w2 ⟨rfl, rfl⟩
    go_wp2
    go_ret2
    exact ⟨rfl, below_drewN' (Below.refl _ _)⟩
  · have ht' : noneT s = false := by simpa using ht
    have F2 := Lib.hid fun w => val_draw (F.out w) ht'
    have HR : Hid (ndR s = 0) := Lib.hid (if_neg ht)
    rw [HR.out, ht']
    clear ht ht' F
    go_enter Try.func20, Try.ntmps20
    go_wp2_with fail
    refine (F2.out _).mono ?_
    rintro e w1 ⟨rfl, q, rfl⟩
    go_wp2
    go_ret2
    exact ⟨rfl, below_drewN' (Below.refl _ _)⟩
theorem nodeOfMarks_both (s : ByteArray) (hs : s.size ≤ 1048576) : ∃ (R0 : Int) (R1 : Bool),
    Hid (∀ W, Calls Try.prog 20 #[.string s] W fun e W' => e = .returned (.tuple #[.int .i64 R0, .bool R1]) ∧ Below W.heap.size W W') ∧
    Hid (∀ W, Calls Try.prog 21 #[.string s] W fun e W' => e = .returned (.tuple #[.int .i64 R0, .bool R1]) ∧ Below W.heap.size W W') :=
  ⟨_, _, fun W => sNodeOfMarks_any s W hs, fun W => nodeOfMarks_any s W hs⟩
end Go.Proofs.Ytdphjnbelggcfaa
