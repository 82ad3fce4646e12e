/-
  Contracts of the program's IsSignal, timeOfSign, TimeOfSignal, TimeOfMarks and of the model's l2Time, TimeOfMarks. Used by the claims on chapter 2.
-/
import Derived.Test.YtdphjnbelggcfaaPieceW
namespace Go.Proofs.Ytdphjnbelggcfaa
open Go.RowKit
set_option linter.unusedVariables false

theorem isSignal_any (s : ByteArray) (w : World) (hs : s.size ≤ 1048576) :
    Calls Try.prog 214 #[.string s] w fun e w' => e = .returned (.bool (pieces (bl s)).isSome) ∧ Below w.heap.size w w' := by
  have F := Lib.hid (pieces_any s w hs)
  go_enter Try.func214, Try.ntmps214
  go_wp2_with fail
  refine F.out.mono ?_
  rintro e w1 ⟨v, rfl, _, hb⟩
  have HB := Lib.hid hb
  clear hb
  go_wp2
  go_ret
  exact ⟨rfl, HB.out⟩

/-- Each sign of a signal is a mark or a gap. -/
theorem fin_signs (r : Bs) : ∀ (ps : List Bs) (cur : Bs) (qs : List Bs), fin ps cur r = some qs → ∀ c ∈ r, isMk c = true ∨ c = 32 ∨ c = 47 := by
  induction r with
  | nil => intro _ _ _ _ c hc; cases hc
  | cons d r ih =>
    intro ps cur qs h c hc
    rw [fin] at h
    by_cases hd : isMk d = true
    · rw [if_pos hd] at h
      rcases List.mem_cons.1 hc with rfl | hc
      · exact .inl hd
      · exact ih _ _ _ h c hc
    · rw [if_neg hd] at h
      split at h
      · next hg =>
        simp only [Bool.and_eq_true, Bool.or_eq_true, beq_iff_eq] at hg
        rcases List.mem_cons.1 hc with rfl | hc
        · exact .inr hg.1.1
        · exact ih _ _ _ h c hc
      · cases h
theorem pieces_signs {s : Bs} {ps : List Bs} (h : pieces s = some ps) : ∀ c ∈ s, isMk c = true ∨ c = 32 ∨ c = 47 := by
  unfold pieces at h
  split at h
  · next e => intro c hc; rw [e] at hc; cases hc
  · exact fin_signs s _ _ _ h

def sgR (r : Nat) : Nat := if r = 46 then 1 else if r = 45 then 3 else if r = 47 then 7 else 3
theorem sgR_sg (c : UInt8) : sgR c.toNat = sg c := by
  unfold sgR sg
  have e : ∀ d : UInt8, (c.toNat = d.toNat) ↔ c = d := fun d => ⟨fun h => UInt8.toNat_inj.1 h, fun h => by rw [h]⟩
  have e1 : (c.toNat = 46) ↔ c = 46 := e 46
  have e2 : (c.toNat = 45) ↔ c = 45 := e 45
  have e3 : (c.toNat = 47) ↔ c = 47 := e 47
  simp only [e1, e2, e3]

theorem timeSign_at (r : Nat) (hr : r ≤ 2147483647) (w : World) : Calls Try.prog 215 #[.int .i32 r] w fun e w' => e = .returned (.int .i64 (sgR r)) ∧ w' = w := by
  by_cases h1 : r = 46
  · subst h1
    go_enter Try.func215, Try.ntmps215
    go_wp2
    go_ret
    exact ⟨rfl, rfl⟩
  · by_cases h2 : r = 45
    · subst h2
      go_enter Try.func215, Try.ntmps215
      go_wp2
      go_ret
      exact ⟨rfl, rfl⟩
    · by_cases h3 : r = 47
      · subst h3
        go_enter Try.func215, Try.ntmps215
        go_wp2
        go_ret
        exact ⟨rfl, rfl⟩
      · have e1 : ((r : Int) == 46) = false := beq_false_of_ne (by omega)
        have e2 : ((r : Int) == 45) = false := beq_false_of_ne (by omega)
        have e3 : ((r : Int) == 47) = false := beq_false_of_ne (by omega)
        have HD : Hid (sgR r = 3) := Lib.hid (by simp [sgR, h1, h2, h3])
        clear h1 h2 h3
        rw [HD.out]
        go_enter Try.func215, Try.ntmps215
        go_wp2
        go_ret
        exact ⟨rfl, rfl⟩

def timeR (s : ByteArray) : Int × Bool := if (pieces (bl s)).isSome = true then (((tmGo false (bl s) : Nat) : Int), true) else (0, false)

set_option maxHeartbeats 4000000 in
theorem timeSig_any (s : ByteArray) (w : World) (hs : s.size ≤ 1048576) :
    Calls Try.prog 179 #[.string s] w fun e w' => e = .returned (.tuple #[.int .i64 (timeR s).1, .bool (timeR s).2]) ∧ Below w.heap.size w w' := by
  have F := Lib.hid fun w => isSignal_any s w hs
  by_cases hsig : (pieces (bl s)).isSome = true
  · have F2 := Lib.hid fun w => val_eqS (v' := .bool true) (F.out w) (by rw [hsig])
    have HR : Hid (timeR s = (((tmGo false (bl s) : Nat) : Int), true)) := Lib.hid (if_pos hsig)
    obtain ⟨ps, hps⟩ := Option.isSome_iff_exists.1 hsig
    have HSg := Lib.hid (pieces_signs hps)
    have HBd := Lib.hid (tm_le (bl s) false)
    clear F hsig hps
    go_enter Try.func179, Try.ntmps179
    go_wp2_with fail
    refine (F2.out _).mono ?_
    rintro e w1 ⟨rfl, hb⟩
    have HB1 := Lib.hid hb
    clear hb
    go_wp2
    go_loopw [4, 5] (fun t v wr => ∃ (pos tm bf : Nat), t = .int .i64 tm ∧ v = .int .i32 bf ∧ bf ≤ 2147483647 ∧ wr.heap[w1.heap.size]? = some (.stringIter s pos) ∧ pos ≤ s.size ∧ Hid (Below w1.heap.size w1 wr) ∧ Hid (tm + tmGo (decide (bf = 46 ∨ bf = 45)) ((bl s).drop pos) = tmGo false (bl s)) ∧ tm ≤ 8 * s.size) (fun _ _ wr => s.size - wr.iterPos w1.heap.size)
    case atStart => exact ⟨0, 0, 32, rfl, rfl, by omega, World.iter_heap w1 s 0, Nat.zero_le _, (Below.refl _ _).alloc (Nat.le_refl _) _, Lib.hid (by simp), Nat.zero_le _⟩
    case round =>
      obtain ⟨pos, tm, bf, rfl, rfl, hbf, hit, hp, HB, HG, htm⟩ := hrel
      have HP := Lib.hid (iterPos_of hit)
      by_cases hlt : pos < s.size
      · obtain ⟨r, wd, hde, hr, hwd, hcase⟩ := sign_at s pos hlt
        have hnx : ∀ ty, (Instr.next (.pointer (some ⟨w1.heap.size, 0, none⟩)) true ty).run Try.prog wr = _ := fun ty => Lib.run_next_any_at wr w1.heap.size s pos ty hit hlt
        have hit2 := Lib.iterAt_heap wr w1.heap.size s pos (pos + wd) hit
        have HB2 : Hid (Below w1.heap.size w1 (wr.iterAt w1.heap.size s (pos + wd))) := Lib.hid (Lib.below_iterAt HB.out (k := w1.heap.size) (Nat.le_refl _) s (pos + wd))
        rw [hde] at hnx
        simp only at hnx
        have HBy := Lib.hid (bl_at s pos hlt)
        have HDr : Hid ((bl s).drop pos = s[pos] :: (bl s).drop (pos + 1)) := Lib.hid (by
          have h2 : pos < (bl s).length := by rw [bl_len]; exact hlt
          rw [List.drop_eq_getElem_cons h2]
          have := bl_at s pos hlt
          rw [List.getElem?_eq_getElem h2] at this
          rw [Option.some.inj this])
        have HC : Hid (r = s[pos].toNat ∧ wd = 1) := Lib.hid (by
          rcases hcase with ⟨_, h2, h3⟩ | ⟨_, h2⟩
          · exact ⟨h2, h3⟩
          · exfalso
            rcases HSg.out _ (List.mem_of_getElem? HBy.out) with h | h | h
            · rw [mk_iff] at h; simp only [decide_eq_true_eq] at h; omega
            · rw [h] at h2; exact absurd h2 (by decide)
            · rw [h] at h2; exact absurd h2 (by decide))
        obtain ⟨W1, hW1⟩ : ∃ W1, W1 = wr.iterAt w1.heap.size s (pos + wd) := ⟨_, rfl⟩
        rw [← hW1] at hnx hit2 HB2
        have HIb := Lib.hid fun w => isMark_at bf hbf w
        have HIs := Lib.hid fun w => isMark_at r hr w
        have HT := Lib.hid fun w => timeSign_at r hr w
        have hsg7 : sgR r ≤ 7 := by
          unfold sgR
          repeat' split
          all_goals omega
        obtain ⟨z, hz⟩ : ∃ z, z = sgR r := ⟨_, rfl⟩
        have HZ := Lib.hid hz
        rw [← hz] at hsg7
        have HT2 := Lib.hid fun w => val_eqS (v' := .int .i64 z) (HT.out w) (by rw [hz])
        have HWd := Lib.hid hwd
        have HPl : Hid (pos + wd ≤ s.size) := Lib.hid (by have := HC.out.2; omega)
        have HNx : Hid (tm + ((if (decide (bf = 46 ∨ bf = 45) && decide (r = 46 ∨ r = 45)) = true then 1 else 0) + z + tmGo (decide (r = 46 ∨ r = 45)) ((bl s).drop (pos + wd))) = tmGo false (bl s)) := Lib.hid (by
          have h1 := HG.out
          rw [HDr.out, tmGo, mk_iff, ← HC.out.1, ← sgR_sg, ← HC.out.1, ← HZ.out] at h1
          rw [HC.out.2]
          exact h1)
        have HBe : Hid (tmGo false (bl s) ≤ 8 * s.size) := Lib.hid (by have := HBd.out; rwa [bl_len] at this)
        clear hW1 hit hde hcase hwd hz HT
        by_cases hb : bf = 46 ∨ bf = 45
        · have HIb2 := Lib.hid fun w => val_eqS (v' := .bool true) (HIb.out w) (by simp [hb])
          by_cases hm : r = 46 ∨ r = 45
          · have HIs2 := Lib.hid fun w => val_eqS (v' := .bool true) (HIs.out w) (by simp [hm])
            have HN : Hid (tm + 1 + z + tmGo (decide (r = 46 ∨ r = 45)) ((bl s).drop (pos + wd)) = tmGo false (bl s) ∧ tm + 1 + z ≤ 8 * s.size) := Lib.hid (by
              have h1 := HNx.out
              have h2 := HBe.out
              rw [if_pos (by simp [hb, hm])] at h1
              omega)
            clear hb hm HIb HIs HNx
            go_wp2_with fail
            refine (HIb2.out _).mono ?_
            rintro e w' ⟨rfl, hww⟩
            obtain rfl := hww.symm
            go_wp2_with fail
            refine (HIs2.out _).mono ?_
            rintro e w' ⟨rfl, hww⟩
            obtain rfl := hww.symm
            go_wp2_with fail
            refine (HT2.out _).mono ?_
            rintro e w' ⟨rfl, hww⟩
            obtain rfl := hww.symm
            go_wp2
            go_roundw
            case rel => exact ⟨pos + wd, tm + 1 + z, r, by congr 1, rfl, by omega, hit2, HPl.out, HB2, Lib.hid HN.out.1, HN.out.2⟩
            case measure => rw [iterPos_of hit2, HP.out]; have := HWd.out; omega
          · have HIs2 := Lib.hid fun w => val_eqS (v' := .bool false) (HIs.out w) (by simp [hm])
            have HN : Hid (tm + z + tmGo (decide (r = 46 ∨ r = 45)) ((bl s).drop (pos + wd)) = tmGo false (bl s) ∧ tm + z ≤ 8 * s.size) := Lib.hid (by
              have h1 := HNx.out
              have h2 := HBe.out
              rw [if_neg (by simp [hm])] at h1
              omega)
            clear hb hm HIb HIs HNx
            go_wp2_with fail
            refine (HIb2.out _).mono ?_
            rintro e w' ⟨rfl, hww⟩
            obtain rfl := hww.symm
            go_wp2_with fail
            refine (HIs2.out _).mono ?_
            rintro e w' ⟨rfl, hww⟩
            obtain rfl := hww.symm
            go_wp2_with fail
            refine (HT2.out _).mono ?_
            rintro e w' ⟨rfl, hww⟩
            obtain rfl := hww.symm
            go_wp2
            go_roundw
            case rel => exact ⟨pos + wd, tm + z, r, by congr 1, rfl, by omega, hit2, HPl.out, HB2, Lib.hid HN.out.1, HN.out.2⟩
            case measure => rw [iterPos_of hit2, HP.out]; have := HWd.out; omega
        · have HIb2 := Lib.hid fun w => val_eqS (v' := .bool false) (HIb.out w) (by simp [hb])
          have HN : Hid (tm + z + tmGo (decide (r = 46 ∨ r = 45)) ((bl s).drop (pos + wd)) = tmGo false (bl s) ∧ tm + z ≤ 8 * s.size) := Lib.hid (by
            have h1 := HNx.out
            have h2 := HBe.out
            rw [if_neg (by simp [hb])] at h1
            omega)
          clear hb HIb HIs HNx
          go_wp2_with fail
          refine (HIb2.out _).mono ?_
          rintro e w' ⟨rfl, hww⟩
          obtain rfl := hww.symm
          go_wp2_with fail
          refine (HT2.out _).mono ?_
          rintro e w' ⟨rfl, hww⟩
          obtain rfl := hww.symm
          go_wp2
          go_roundw
          case rel => exact ⟨pos + wd, tm + z, r, by congr 1, rfl, by omega, hit2, HPl.out, HB2, Lib.hid HN.out.1, HN.out.2⟩
          case measure => rw [iterPos_of hit2, HP.out]; have := HWd.out; omega
      · have hnx : ∀ ty, (Instr.next (.pointer (some ⟨w1.heap.size, 0, none⟩)) true ty).run Try.prog wr = _ := fun ty => Lib.run_next_end_at wr w1.heap.size s pos ty hit hlt
        have HE : Hid (tmGo false (bl s) = tm) := Lib.hid (by
          have h1 := HG.out
          rw [List.drop_of_length_le (by rw [bl_len]; omega), tmGo] at h1
          omega)
        go_wp2
        go_ret2
        exact ⟨by rw [HR.out, HE.out]; rfl, HB1.out.trans (HB.out.mono HB1.out.size)⟩
  · have F2 := Lib.hid fun w => val_eqS (v' := .bool false) (F.out w) (by simp [hsig])
    have HR : Hid (timeR s = (0, false)) := Lib.hid (if_neg hsig)
    clear F hsig
    go_enter Try.func179, Try.ntmps179
    go_wp2_with fail
    refine (F2.out _).mono ?_
    rintro e w1 ⟨rfl, hb⟩
    have HB1 := Lib.hid hb
    clear hb
    go_wp2
    go_ret2
    exact ⟨by rw [HR.out]; rfl, HB1.out⟩
end Go.Proofs.Ytdphjnbelggcfaa
