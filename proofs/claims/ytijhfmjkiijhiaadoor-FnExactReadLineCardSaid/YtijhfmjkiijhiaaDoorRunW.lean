/-
  The runs of a line: runsOf of the program, l4Runs of the model. Used by the claims on chapter 4.
-/
import Derived.Test.YtijhfmjkiijhiaaDoorUnitL
import Derived.Test.YtijhfmjkiijhiaaDoorSeqV
import Derived.Test.YtijhfmjkiijhiaaDoorSignW
import Derived.Laws.OwnMore
import Derived.RegionTactic
import Derived.Deep.RegionLaw
namespace Go.Proofs.YtijhfmjkiijhiaaDoor
open Go.RowKit
set_option linter.unusedVariables false

/-- How a function ends that answers with a slice of pairs of its own. -/
def RunOut (rs : Rs) (w : World) (e : Ending) (w' : World) : Prop :=
  (∃ g' c', e = .returned (.slice (some ⟨g', 0, none⟩) rs.length c') ∧ SrcV w' (some ⟨g', 0, none⟩) g' (prs rs) ∧ w.heap.size ≤ g' ∧ (∀ j, j < (prs rs).length → w'.frozen? ⟨g', j, none⟩ = false) ∧ rs.length ≤ c') ∧ Below w.heap.size w w'
theorem prs_set (r0 : Rs) (s x y : Nat) : (prs (r0 ++ [(s, x)])).set (r0.length * 2 + 1) (.int .i64 (y : Int)) = prs (r0 ++ [(s, y)]) := by
  rw [prs_snoc, prs_snoc]
  have h : (prs r0).length = r0.length * 2 := by rw [prs_len, Nat.mul_comm]
  rw [List.set_append_right _ _ (by omega), h]
  have : r0.length * 2 + 1 - r0.length * 2 = 1 := by omega
  rw [this]; rfl
theorem row_last {w : World} {base : Nat} {v : Value} {r0 : Rs} {s x : Nat} (h : w.ownsRow base 48 2 v (r0.length + 1) (prs (r0 ++ [(s, x)]))) :
    ∃ g cap, v = .slice (some ⟨g, 0, none⟩) (r0.length + 1) cap ∧ base ≤ g ∧ g < w.heap.size ∧ w.cell? ⟨g, r0.length * 2 + 1, none⟩ = some (.int .i64 (x : Int)) ∧ w.frozen? ⟨g, r0.length * 2 + 1, none⟩ = false ∧ ∀ y : Nat, (w.setCell ⟨g, r0.length * 2 + 1, none⟩ (.int .i64 (y : Int))).ownsRow base 48 2 v (r0.length + 1) (prs (r0 ++ [(s, y)])) := by
  have h' := h
  have hl : (prs r0).length = r0.length * 2 := by rw [prs_len, Nat.mul_comm]
  rcases h.2 with ⟨_, h1⟩ | ⟨g, cap, cur, rfl, hg, hh, _⟩
  · omega
  · refine ⟨g, cap, rfl, hg, (Array.getElem?_eq_some_iff.1 hh).1, ?_, by simp [World.frozen?, hh], fun y => ?_⟩
    · rw [h'.cellAt _ (by omega), prs_snoc, List.getElem?_append_right (by omega), hl]
      have : r0.length * 2 + 1 - r0.length * 2 = 1 := by omega
      rw [this]; rfl
    · have := (h'.stored (r0.length * 2 + 1) (.int .i64 (y : Int))).1
      rwa [prs_set] at this
theorem runs_split {l : Bs} {k : Nat} (h : ∀ c ∈ l, c = 48 ∨ c = 49) (hk : k ≤ l.length) (h0 : 0 < k) : ∃ r0 x, runsTo l k = r0 ++ [(signOf (l.getD (k - 1) 0), x)] ∧ r0.length + 1 ≤ k ∧ x ≤ k := by
  obtain ⟨h1, h2, h3⟩ := runsTo_good h k hk
  obtain ⟨r0, x, e⟩ := h3 h0
  refine ⟨r0, x, e, ?_, ?_⟩
  · have := runsTo_le l k
    rw [e] at this
    simpa using this
  · have := spell_max (runsTo l k) (signOf (l.getD (k - 1) 0), x) (by rw [e]; simp)
    rw [h2] at this
    have h4 : (l.take k).length ≤ k := List.length_take_le _ _
    simp only at this
    omega
theorem getD_at (s : ByteArray) (k : Nat) (h : k < s.size) : (bl s).getD k 0 = s[k] := by rw [List.getD_eq_getElem?_getD, bl_at s k h]; rfl
theorem runs_new (s : ByteArray) (k : Nat) (h : k < s.size) (hn : k = 0 ∨ s[k] ≠ s[k - 1]'(by omega)) : runsTo (bl s) (k + 1) = runsTo (bl s) k ++ [(signOf s[k], 1)] := by
  have e : runsTo (bl s) (k + 1) = if k = 0 ∨ (bl s).getD k 0 ≠ (bl s).getD (k - 1) 0 then runsTo (bl s) k ++ [(signOf ((bl s).getD k 0), 1)] else bump (runsTo (bl s) k) := rfl
  rw [e, getD_at s k h, getD_at s (k - 1) (by omega), if_pos hn]
theorem runs_old (s : ByteArray) (k : Nat) (h : k < s.size) (h0 : 0 < k) (hn : s[k] = s[k - 1]'(by omega)) : runsTo (bl s) (k + 1) = bump (runsTo (bl s) k) := by
  have e : runsTo (bl s) (k + 1) = if k = 0 ∨ (bl s).getD k 0 ≠ (bl s).getD (k - 1) 0 then runsTo (bl s) k ++ [(signOf ((bl s).getD k 0), 1)] else bump (runsTo (bl s) k) := rfl
  rw [e, getD_at s k h, getD_at s (k - 1) (by omega), if_neg (by
    intro e
    rcases e with e | e
    · exact absurd e (by omega)
    · exact e hn)]

set_option maxHeartbeats 8000000 in
set_option maxRecDepth 8000 in
theorem runsOf_any (s : ByteArray) (w : World) (hs : s.size ≤ 1048576) (hbt : ∀ c ∈ bl s, c = 48 ∨ c = 49) :
    Calls Tryd.prog 58 #[.string s] w fun e w' => RunOut (runsL (bl s)) w e w' := by
  obtain ⟨i0, hi', hz0, hz1, hz2⟩ := info_parts infoPair
  have HBt := Lib.hid hbt
  have HR : Hid (runsL (bl s) = runsTo (bl s) s.size) := Lib.hid (by rw [runsL, bl_len])
  rw [HR.out]
  clear hbt
  have M0 : Hid ((w.alloc (Obj.cells #[] 48)).ownsRow w.heap.size 48 2 (.slice (some ⟨w.heap.size, 0, none⟩) 0 0) 0 (prs [])) := Lib.hid (World.ownsRow_made (base := w.heap.size) (e := 48) (size := 2) w #[] 0 (by simp) (by unfold maxLen; omega) rfl)
  have hB1 := Lib.hid (below_alloc w (Obj.cells #[] 48))
  go_enter Tryd.func58, Tryd.ntmps58
  go_wp2
  go_loopw [3, 8] (fun pv v wr => ∃ k : Nat, v = .int .i64 k ∧ k ≤ s.size ∧ wr.ownsRow w.heap.size 48 2 pv (runsTo (bl s) k).length (prs (runsTo (bl s) k)) ∧ Hid (Below w.heap.size w wr) ∧ Hid (pv ≠ .slice none 0 0)) (fun _ v _ => s.size - (intOf v).toNat)
  case atStart => exact ⟨0, rfl, Nat.zero_le _, M0.out, hB1, Lib.hid (fun e => by cases e)⟩
  case round =>
    obtain ⟨k, rfl, hk, hown, HB, HNil⟩ := hrel
    obtain ⟨av, capv, rfl⟩ := row_form hown
    have hle := runsTo_le (bl s) k
    by_cases hlt : k < s.size
    · have HBk := Lib.hid (HBt.out _ (List.mem_of_getElem? (bl_at s k hlt)))
      have t0 : (0 : Int) ≤ (k : Int) := by omega
      have t1 : (k : Int) < (s.size : Int) := by omega
      by_cases hn : k = 0 ∨ s[k] ≠ s[k - 1]
      · have HP : Hid (runsTo (bl s) (k + 1) = runsTo (bl s) k ++ [(signOf s[k], 1)]) := Lib.hid (runs_new s k hlt hn)
        have hsg : s[k].toNat = 48 + signOf s[k] ∧ signOf s[k] ≤ 1 := by
          rcases HBk.out with e | e <;> rw [e] <;> decide
        obtain ⟨sg, hsgd⟩ : ∃ n, n = signOf s[k] := ⟨_, rfl⟩
        rw [← hsgd] at HP hsg
        have u1 : IntKind.u8.wrap ((s[k].toNat : Int) - 48) = (sg : Int) := by rw [IntKind.wrap_u8]; omega
        have u2 : IntKind.i64.wrap (sg : Int) = (sg : Int) := by rw [IntKind.wrap_i64]; omega
        have u3 : wrap64 (sg : Int) = (sg : Int) := IntWalk.wrap64_in _ (by omega)
        have HOw := Lib.hid hown
        have HRl : Hid ((runsTo (bl s) k).length ≤ k) := Lib.hid hle
        generalize hrs : runsTo (bl s) k = rs at hown HP HOw HRl HNil
        have hle2 := HRl.out
        clear hrs hle hsgd hsg
        rcases Nat.eq_zero_or_pos k with h0 | h0
        rotate_left
        · have hne : s[k] ≠ s[k - 1] := hn.resolve_left (by omega)
          obtain ⟨j, hj⟩ : ∃ j, k = j + 1 := ⟨k - 1, by omega⟩
          have hj2 : j < s.size := by omega
          have hne2 : s[k] ≠ s[j] := by subst hj; exact hne
          have t2 : ((k : Int) == 0) = false := beq_false_of_ne (by omega)
          have t4 : (0 : Int) ≤ (j : Int) := by omega
          have t5 : (j : Int) < (s.size : Int) := by omega
          have t6 : wrap64 ((k : Int) - 1) = (j : Int) := by rw [IntWalk.wrap64_in _ (by omega)]; omega
          have t7 : IntKind.i64.wrap ((k : Int) - 1) = (j : Int) := by rw [IntKind.wrap_i64]; omega
          have t8 : (k : Int) - 1 = (j : Int) := by omega
          have t9 : ((s[k].toNat : Int) == (s[j].toNat : Int)) = false := beq_false_of_ne (fun e => hne2 (UInt8.toNat_inj.1 (by omega)))
          have t10 : ((s[k].toNat : Int) != (s[j].toNat : Int)) = true := by rw [bne, t9]; rfl
          have t11 : (0 : Int) < (k : Int) := by omega
          clear hn hne hne2 hj
          go_wp2
          go_quiet (fail)
          obtain ⟨W5, hW5⟩ : ∃ W5, W5 = wr.drewN nq := ⟨_, rfl⟩
          have hownd : W5.ownsRow w.heap.size 48 2 (.slice av rs.length capv) rs.length (prs rs) := by rw [hW5]; exact HOw.out
          have HBd : Hid (Below w.heap.size w W5) := Lib.hid (by rw [hW5]; exact HB.out.trans ⟨rfl, rfl, rfl, Nat.le_refl _, fun _ _ => rfl⟩)
          have HLd : Hid (∀ q, (Value.slice av rs.length capv).ownBlock = some q → w.heap.size ≤ q ∧ q < W5.heap.size) := Lib.hid hownd.lt
          have hszd : w.heap.size ≤ W5.heap.size := HBd.out.size
          rw [← hW5]
          clear hW5 hown
          go_wp2_with (at_builtin; refine wpList_append_own _ rfl _ _ 25 rfl w.heap.size 48 i0 (.agg #[.int .i64 0, .int .i64 0]) 2 16 Tryd.underlying25 hi' hz0 hz1 hz2 rfl (by decide) (.slice av rs.length capv) rs.length (prs rs) rfl (hownd.alloc _) ⟨W5.heap.size, 0, none⟩ 1 1 [.int .i64 (sg : Int), .int .i64 0] rfl rfl (cell_two_new _ _ _ _) (by simp [Value.oneCell']) (by unfold maxLen; omega) (by omega) (by simp; omega) ?_; intro v' w7 hown' hgrow hnil)
          have HN7 : Hid (v' ≠ .slice none 0 0) := Lib.hid (fun e => HNil.out (hnil.1 e).1)
          have HW7 : Hid (w7.ownsRow w.heap.size 48 2 v' (rs.length + 1) (prs (rs ++ [(sg, 0)]))) := Lib.hid (by rw [prs_snoc]; simpa using hown')
          have HB7 : Hid (Below w.heap.size w w7) := Lib.hid ((HBd.out.alloc HBd.out.size _).grown hgrow (by have := HBd.out.size; simp; omega) (fun q e => (HLd.out q e).1))
          clear hown' hgrow hownd hszd
          obtain ⟨g, cap7, rfl, hg1, hg2, hc7, hf7, hst⟩ := row_last HW7.out
          have HSt := Lib.hid (hst 1)
          have HBs : Hid (Below w.heap.size w (w7.setCell ⟨g, rs.length * 2 + 1, none⟩ (.int .i64 (1 : Int)))) := Lib.hid (HB7.out.setCell (p := ⟨g, rs.length * 2 + 1, none⟩) hg1 _)
          clear hst hg1 hg2
          go_wp2
          go_region
          go_wp2
          go_roundw
          case rel => exact ⟨k + 1, by go_num, by omega, by rw [HP.out, List.length_append, List.length_singleton]; exact HSt.out, Lib.hid (HBs.out.trans ⟨rfl, rfl, rfl, Nat.le_refl _, fun _ _ => rfl⟩), Lib.hid (fun e => by cases e)⟩
          case measure => simp [intOf]; omega
        · have t2 : ((k : Int) == 0) = true := by simp; omega
          have t11 : ¬ (0 : Int) < (k : Int) := by omega
          have t12 : decide ((0 : Int) < (k : Int)) = false := by simp; omega
          have t14 : decide (0 < k) = false := by simp; omega
          clear hn h0
          go_wp2
          go_quiet (fail)
          obtain ⟨W5, hW5⟩ : ∃ W5, W5 = wr.drewN nq := ⟨_, rfl⟩
          have hownd : W5.ownsRow w.heap.size 48 2 (.slice av rs.length capv) rs.length (prs rs) := by rw [hW5]; exact HOw.out
          have HBd : Hid (Below w.heap.size w W5) := Lib.hid (by rw [hW5]; exact HB.out.trans ⟨rfl, rfl, rfl, Nat.le_refl _, fun _ _ => rfl⟩)
          have HLd : Hid (∀ q, (Value.slice av rs.length capv).ownBlock = some q → w.heap.size ≤ q ∧ q < W5.heap.size) := Lib.hid hownd.lt
          have hszd : w.heap.size ≤ W5.heap.size := HBd.out.size
          rw [← hW5]
          clear hW5 hown
          go_wp2_with (at_builtin; refine wpList_append_own _ rfl _ _ 25 rfl w.heap.size 48 i0 (.agg #[.int .i64 0, .int .i64 0]) 2 16 Tryd.underlying25 hi' hz0 hz1 hz2 rfl (by decide) (.slice av rs.length capv) rs.length (prs rs) rfl (hownd.alloc _) ⟨W5.heap.size, 0, none⟩ 1 1 [.int .i64 (sg : Int), .int .i64 0] rfl rfl (cell_two_new _ _ _ _) (by simp [Value.oneCell']) (by unfold maxLen; omega) (by omega) (by simp; omega) ?_; intro v' w7 hown' hgrow hnil)
          have HN7 : Hid (v' ≠ .slice none 0 0) := Lib.hid (fun e => HNil.out (hnil.1 e).1)
          have HW7 : Hid (w7.ownsRow w.heap.size 48 2 v' (rs.length + 1) (prs (rs ++ [(sg, 0)]))) := Lib.hid (by rw [prs_snoc]; simpa using hown')
          have HB7 : Hid (Below w.heap.size w w7) := Lib.hid ((HBd.out.alloc HBd.out.size _).grown hgrow (by have := HBd.out.size; simp; omega) (fun q e => (HLd.out q e).1))
          clear hown' hgrow hownd hszd
          obtain ⟨g, cap7, rfl, hg1, hg2, hc7, hf7, hst⟩ := row_last HW7.out
          have HSt := Lib.hid (hst 1)
          have HBs : Hid (Below w.heap.size w (w7.setCell ⟨g, rs.length * 2 + 1, none⟩ (.int .i64 (1 : Int)))) := Lib.hid (HB7.out.setCell (p := ⟨g, rs.length * 2 + 1, none⟩) hg1 _)
          clear hst hg1 hg2
          go_wp2
          go_region
          go_wp2
          go_roundw
          case rel => exact ⟨k + 1, by go_num, by omega, by rw [HP.out, List.length_append, List.length_singleton]; exact HSt.out, Lib.hid (HBs.out.trans ⟨rfl, rfl, rfl, Nat.le_refl _, fun _ _ => rfl⟩), Lib.hid (fun e => by cases e)⟩
          case measure => simp [intOf]; omega
      · have hk0 : 0 < k := by
          rcases Nat.eq_zero_or_pos k with e | e
          · exact absurd (.inl e) hn
          · exact e
        have hsame : s[k] = s[k - 1] := Classical.byContradiction fun e => hn (.inr e)
        obtain ⟨r0, x, hrs, hr0, hx⟩ := runs_split (k := k) HBt.out (by rw [bl_len]; omega) hk0
        generalize signOf ((bl s).getD (k - 1) 0) = sg at hrs
        have HP : Hid (runsTo (bl s) (k + 1) = r0 ++ [(sg, x + 1)]) := Lib.hid (by rw [runs_old s k hlt hk0 hsame, hrs, bump_snoc])
        rw [hrs] at hown
        rw [List.length_append, List.length_singleton] at hown
        obtain ⟨j, hj⟩ : ∃ j, k = j + 1 := ⟨k - 1, by omega⟩
        have hj2 : j < s.size := by omega
        have hne2 : s[k] = s[j] := by subst hj; exact hsame
        have t2 : ((k : Int) == 0) = false := beq_false_of_ne (by omega)
        have t4 : (0 : Int) ≤ (j : Int) := by omega
        have t5 : (j : Int) < (s.size : Int) := by omega
        have t6 : wrap64 ((k : Int) - 1) = (j : Int) := by rw [IntWalk.wrap64_in _ (by omega)]; omega
        have t7 : IntKind.i64.wrap ((k : Int) - 1) = (j : Int) := by rw [IntKind.wrap_i64]; omega
        have t8 : (k : Int) - 1 = (j : Int) := by omega
        have t9 : ((s[k].toNat : Int) == (s[j].toNat : Int)) = true := by rw [hne2]; simp
        have t10 : ((s[k].toNat : Int) != (s[j].toNat : Int)) = false := by rw [bne, t9]; rfl
        have t11 : (0 : Int) < (k : Int) := by omega
        have HRs := Lib.hid hrs
        clear hn hsame hne2 hj hrs hle
        have HOw := Lib.hid hown
        have hr0l : (runsTo (bl s) k).length = r0.length + 1 := by rw [HRs.out]; simp
        rw [hr0l]
        clear hr0l
        go_wp2
        go_quiet (fail)
        obtain ⟨W5, hW5⟩ : ∃ W5, W5 = wr.drewN nq := ⟨_, rfl⟩
        have hownd : W5.ownsRow w.heap.size 48 2 (.slice av (r0.length + 1) capv) (r0.length + 1) (prs (r0 ++ [(sg, x)])) := by rw [hW5]; exact HOw.out
        have HBd : Hid (Below w.heap.size w W5) := Lib.hid (by rw [hW5]; exact HB.out.trans ⟨rfl, rfl, rfl, Nat.le_refl _, fun _ _ => rfl⟩)
        rw [← hW5]
        clear hW5 hown
        obtain ⟨g, cap7, hv7, hg1, hg2, hc7, hf7, hst⟩ := row_last hownd
        injection hv7 with hv8 _ hv9
        subst hv8 hv9
        have HSt := Lib.hid (hst (x + 1))
        have HBs : Hid (Below w.heap.size w (W5.setCell ⟨g, r0.length * 2 + 1, none⟩ (.int .i64 ((x + 1 : Nat) : Int)))) := Lib.hid (HBd.out.setCell (p := ⟨g, r0.length * 2 + 1, none⟩) hg1 _)
        clear hst hg1 hg2 hownd
        go_wp2
        go_region
        go_wp2
        go_roundw
        case rel => exact ⟨k + 1, by go_num, by omega, by rw [HP.out, List.length_append, List.length_singleton]; exact HSt.out, Lib.hid (HBs.out.trans ⟨rfl, rfl, rfl, Nat.le_refl _, fun _ _ => rfl⟩), Lib.hid (fun e => by cases e)⟩
        case measure => simp [intOf]; omega
    · have HE : Hid (runsTo (bl s) s.size = runsTo (bl s) k) := Lib.hid (by congr 1; omega)
      go_wp2
      go_ret
      rw [HE.out]
      obtain ⟨g', c', hv, hs', hg', hf', hcc⟩ := seq_of_row2 hown HNil.out
      exact ⟨⟨g', c', by rw [← hv]; rfl, hs', hg', hf', hcc⟩, HB.out⟩
set_option maxHeartbeats 8000000 in
set_option maxRecDepth 8000 in
theorem sRuns_any (s : ByteArray) (w : World) (hs : s.size ≤ 1048576) (hbt : ∀ c ∈ bl s, c = 48 ∨ c = 49) :
    Calls Tryd.prog 57 #[.string s] w fun e w' => RunOut (runsL (bl s)) w e w' := by
  obtain ⟨i0, hi', hz0, hz1, hz2⟩ := info_parts infoPair
  have HBt := Lib.hid hbt
  have HR : Hid (runsL (bl s) = runsTo (bl s) s.size) := Lib.hid (by rw [runsL, bl_len])
  rw [HR.out]
  clear hbt
  have M0 : Hid ((w.alloc (Obj.cells #[] 48)).ownsRow w.heap.size 48 2 (.slice (some ⟨w.heap.size, 0, none⟩) 0 0) 0 (prs [])) := Lib.hid (World.ownsRow_made (base := w.heap.size) (e := 48) (size := 2) w #[] 0 (by simp) (by unfold maxLen; omega) rfl)
  have hB1 := Lib.hid (below_alloc w (Obj.cells #[] 48))
  go_enter Tryd.func57, Tryd.ntmps57
  go_wp2
  go_loopw [3, 4] (fun pv v wr => ∃ k : Nat, v = .int .i64 k ∧ k ≤ s.size ∧ wr.ownsRow w.heap.size 48 2 pv (runsTo (bl s) k).length (prs (runsTo (bl s) k)) ∧ Hid (Below w.heap.size w wr) ∧ Hid (pv ≠ .slice none 0 0)) (fun _ v _ => s.size - (intOf v).toNat)
  case atStart => exact ⟨0, rfl, Nat.zero_le _, M0.out, hB1, Lib.hid (fun e => by cases e)⟩
  case round =>
    obtain ⟨k, rfl, hk, hown, HB, HNil⟩ := hrel
    obtain ⟨av, capv, rfl⟩ := row_form hown
    have hle := runsTo_le (bl s) k
    by_cases hlt : k < s.size
    · have HBk := Lib.hid (HBt.out _ (List.mem_of_getElem? (bl_at s k hlt)))
      have t0 : (0 : Int) ≤ (k : Int) := by omega
      have t1 : (k : Int) < (s.size : Int) := by omega
      by_cases hn : k = 0 ∨ s[k] ≠ s[k - 1]
      · have HP : Hid (runsTo (bl s) (k + 1) = runsTo (bl s) k ++ [(signOf s[k], 1)]) := Lib.hid (runs_new s k hlt hn)
        have hsg : s[k].toNat = 48 + signOf s[k] ∧ signOf s[k] ≤ 1 := by
          rcases HBk.out with e | e <;> rw [e] <;> decide
        obtain ⟨sg, hsgd⟩ : ∃ n, n = signOf s[k] := ⟨_, rfl⟩
        rw [← hsgd] at HP hsg
        have u1 : IntKind.u8.wrap ((s[k].toNat : Int) - 48) = (sg : Int) := by rw [IntKind.wrap_u8]; omega
        have u2 : IntKind.i64.wrap (sg : Int) = (sg : Int) := by rw [IntKind.wrap_i64]; omega
        have u3 : wrap64 (sg : Int) = (sg : Int) := IntWalk.wrap64_in _ (by omega)
        have HOw := Lib.hid hown
        have HRl : Hid ((runsTo (bl s) k).length ≤ k) := Lib.hid hle
        generalize hrs : runsTo (bl s) k = rs at hown HP HOw HRl HNil
        have hle2 := HRl.out
        clear hrs hle hsgd hsg
        rcases Nat.eq_zero_or_pos k with h0 | h0
        rotate_left
        · have hne : s[k] ≠ s[k - 1] := hn.resolve_left (by omega)
          obtain ⟨j, hj⟩ : ∃ j, k = j + 1 := ⟨k - 1, by omega⟩
          have hj2 : j < s.size := by omega
          have hne2 : s[k] ≠ s[j] := by subst hj; exact hne
          have t2 : ((k : Int) == 0) = false := beq_false_of_ne (by omega)
          have t4 : (0 : Int) ≤ (j : Int) := by omega
          have t5 : (j : Int) < (s.size : Int) := by omega
          have t6 : wrap64 ((k : Int) - 1) = (j : Int) := by rw [IntWalk.wrap64_in _ (by omega)]; omega
          have t7 : IntKind.i64.wrap ((k : Int) - 1) = (j : Int) := by rw [IntKind.wrap_i64]; omega
          have t8 : (k : Int) - 1 = (j : Int) := by omega
          have t9 : ((s[k].toNat : Int) == (s[j].toNat : Int)) = false := beq_false_of_ne (fun e => hne2 (UInt8.toNat_inj.1 (by omega)))
          have t10 : ((s[k].toNat : Int) != (s[j].toNat : Int)) = true := by rw [bne, t9]; rfl
          have t11 : (0 : Int) < (k : Int) := by omega
          clear hn hne hne2 hj
          go_wp2
          go_quiet (fail)
          obtain ⟨W5, hW5⟩ : ∃ W5, W5 = wr.drewN nq := ⟨_, rfl⟩
          have hownd : W5.ownsRow w.heap.size 48 2 (.slice av rs.length capv) rs.length (prs rs) := by rw [hW5]; exact HOw.out
          have HBd : Hid (Below w.heap.size w W5) := Lib.hid (by rw [hW5]; exact HB.out.trans ⟨rfl, rfl, rfl, Nat.le_refl _, fun _ _ => rfl⟩)
          have HLd : Hid (∀ q, (Value.slice av rs.length capv).ownBlock = some q → w.heap.size ≤ q ∧ q < W5.heap.size) := Lib.hid hownd.lt
          have hszd : w.heap.size ≤ W5.heap.size := HBd.out.size
          rw [← hW5]
          clear hW5 hown
          go_wp2_with (at_builtin; refine wpList_append_own _ rfl _ _ 25 rfl w.heap.size 48 i0 (.agg #[.int .i64 0, .int .i64 0]) 2 16 Tryd.underlying25 hi' hz0 hz1 hz2 rfl (by decide) (.slice av rs.length capv) rs.length (prs rs) rfl (hownd.alloc _) ⟨W5.heap.size, 0, none⟩ 1 1 [.int .i64 (sg : Int), .int .i64 1] rfl rfl (cell_two_new _ _ _ _) (by simp [Value.oneCell']) (by unfold maxLen; omega) (by omega) (by simp; omega) ?_; intro v' w7 hown' hgrow hnil)
          have HN7 : Hid (v' ≠ .slice none 0 0) := Lib.hid (fun e => HNil.out (hnil.1 e).1)
          have HW7 : Hid (w7.ownsRow w.heap.size 48 2 v' (rs.length + 1) (prs (rs ++ [(sg, 1)]))) := Lib.hid (by rw [prs_snoc]; simpa using hown')
          have HB7 : Hid (Below w.heap.size w w7) := Lib.hid ((HBd.out.alloc HBd.out.size _).grown hgrow (by have := HBd.out.size; simp; omega) (fun q e => (HLd.out q e).1))
          clear hown' hgrow hownd hszd
          go_wp2
          go_roundw
          case rel => exact ⟨k + 1, by go_num, by omega, by rw [HP.out, List.length_append, List.length_singleton]; exact HW7.out, HB7, HN7⟩
          case measure => simp [intOf]; omega
        · have t2 : ((k : Int) == 0) = true := by simp; omega
          have t11 : ¬ (0 : Int) < (k : Int) := by omega
          have t12 : decide ((0 : Int) < (k : Int)) = false := by simp; omega
          have t14 : decide (0 < k) = false := by simp; omega
          clear hn h0
          go_wp2
          go_quiet (fail)
          obtain ⟨W5, hW5⟩ : ∃ W5, W5 = wr.drewN nq := ⟨_, rfl⟩
          have hownd : W5.ownsRow w.heap.size 48 2 (.slice av rs.length capv) rs.length (prs rs) := by rw [hW5]; exact HOw.out
          have HBd : Hid (Below w.heap.size w W5) := Lib.hid (by rw [hW5]; exact HB.out.trans ⟨rfl, rfl, rfl, Nat.le_refl _, fun _ _ => rfl⟩)
          have HLd : Hid (∀ q, (Value.slice av rs.length capv).ownBlock = some q → w.heap.size ≤ q ∧ q < W5.heap.size) := Lib.hid hownd.lt
          have hszd : w.heap.size ≤ W5.heap.size := HBd.out.size
          rw [← hW5]
          clear hW5 hown
          go_wp2_with (at_builtin; refine wpList_append_own _ rfl _ _ 25 rfl w.heap.size 48 i0 (.agg #[.int .i64 0, .int .i64 0]) 2 16 Tryd.underlying25 hi' hz0 hz1 hz2 rfl (by decide) (.slice av rs.length capv) rs.length (prs rs) rfl (hownd.alloc _) ⟨W5.heap.size, 0, none⟩ 1 1 [.int .i64 (sg : Int), .int .i64 1] rfl rfl (cell_two_new _ _ _ _) (by simp [Value.oneCell']) (by unfold maxLen; omega) (by omega) (by simp; omega) ?_; intro v' w7 hown' hgrow hnil)
          have HN7 : Hid (v' ≠ .slice none 0 0) := Lib.hid (fun e => HNil.out (hnil.1 e).1)
          have HW7 : Hid (w7.ownsRow w.heap.size 48 2 v' (rs.length + 1) (prs (rs ++ [(sg, 1)]))) := Lib.hid (by rw [prs_snoc]; simpa using hown')
          have HB7 : Hid (Below w.heap.size w w7) := Lib.hid ((HBd.out.alloc HBd.out.size _).grown hgrow (by have := HBd.out.size; simp; omega) (fun q e => (HLd.out q e).1))
          clear hown' hgrow hownd hszd
          go_wp2
          go_roundw
          case rel => exact ⟨k + 1, by go_num, by omega, by rw [HP.out, List.length_append, List.length_singleton]; exact HW7.out, HB7, HN7⟩
          case measure => simp [intOf]; omega
      · have hk0 : 0 < k := by
          rcases Nat.eq_zero_or_pos k with e | e
          · exact absurd (.inl e) hn
          · exact e
        have hsame : s[k] = s[k - 1] := Classical.byContradiction fun e => hn (.inr e)
        obtain ⟨r0, x, hrs, hr0, hx⟩ := runs_split (k := k) HBt.out (by rw [bl_len]; omega) hk0
        generalize signOf ((bl s).getD (k - 1) 0) = sg at hrs
        have HP : Hid (runsTo (bl s) (k + 1) = r0 ++ [(sg, x + 1)]) := Lib.hid (by rw [runs_old s k hlt hk0 hsame, hrs, bump_snoc])
        rw [hrs] at hown
        rw [List.length_append, List.length_singleton] at hown
        obtain ⟨j, hj⟩ : ∃ j, k = j + 1 := ⟨k - 1, by omega⟩
        have hj2 : j < s.size := by omega
        have hne2 : s[k] = s[j] := by subst hj; exact hsame
        have t2 : ((k : Int) == 0) = false := beq_false_of_ne (by omega)
        have t4 : (0 : Int) ≤ (j : Int) := by omega
        have t5 : (j : Int) < (s.size : Int) := by omega
        have t6 : wrap64 ((k : Int) - 1) = (j : Int) := by rw [IntWalk.wrap64_in _ (by omega)]; omega
        have t7 : IntKind.i64.wrap ((k : Int) - 1) = (j : Int) := by rw [IntKind.wrap_i64]; omega
        have t8 : (k : Int) - 1 = (j : Int) := by omega
        have t9 : ((s[k].toNat : Int) == (s[j].toNat : Int)) = true := by rw [hne2]; simp
        have t10 : ((s[k].toNat : Int) != (s[j].toNat : Int)) = false := by rw [bne, t9]; rfl
        have t11 : (0 : Int) < (k : Int) := by omega
        have HRs := Lib.hid hrs
        clear hn hsame hne2 hj hrs hle
        have HOw := Lib.hid hown
        have hr0l : (runsTo (bl s) k).length = r0.length + 1 := by rw [HRs.out]; simp
        rw [hr0l]
        clear hr0l
        go_wp2
        go_quiet (fail)
        obtain ⟨W5, hW5⟩ : ∃ W5, W5 = wr.drewN nq := ⟨_, rfl⟩
        have hownd : W5.ownsRow w.heap.size 48 2 (.slice av (r0.length + 1) capv) (r0.length + 1) (prs (r0 ++ [(sg, x)])) := by rw [hW5]; exact HOw.out
        have HBd : Hid (Below w.heap.size w W5) := Lib.hid (by rw [hW5]; exact HB.out.trans ⟨rfl, rfl, rfl, Nat.le_refl _, fun _ _ => rfl⟩)
        rw [← hW5]
        clear hW5 hown
        obtain ⟨g, cap7, hv7, hg1, hg2, hc7, hf7, hst⟩ := row_last hownd
        injection hv7 with hv8 _ hv9
        subst hv8 hv9
        have HSt := Lib.hid (hst (x + 1))
        have HBs : Hid (Below w.heap.size w (W5.setCell ⟨g, r0.length * 2 + 1, none⟩ (.int .i64 ((x + 1 : Nat) : Int)))) := Lib.hid (HBd.out.setCell (p := ⟨g, r0.length * 2 + 1, none⟩) hg1 _)
        clear hst hg1 hg2 hownd
        go_wp2
        go_region
        go_wp2
        go_roundw
        case rel => exact ⟨k + 1, by go_num, by omega, by rw [HP.out, List.length_append, List.length_singleton]; exact HSt.out, Lib.hid (HBs.out.trans ⟨rfl, rfl, rfl, Nat.le_refl _, fun _ _ => rfl⟩), Lib.hid (fun e => by cases e)⟩
        case measure => simp [intOf]; omega
    · have HE : Hid (runsTo (bl s) s.size = runsTo (bl s) k) := Lib.hid (by congr 1; omega)
      go_wp2
      go_ret
      rw [HE.out]
      obtain ⟨g', c', hv, hs', hg', hf', hcc⟩ := seq_of_row2 hown HNil.out
      exact ⟨⟨g', c', by rw [← hv]; rfl, hs', hg', hf', hcc⟩, HB.out⟩
end Go.Proofs.YtijhfmjkiijhiaaDoor
