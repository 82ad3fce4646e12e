/-
  DropShort, the program's. Used by the claim on DropShort.
-/
import Derived.Test.YtgfmcpipbmnagaaDrpS
import Derived.Deep.LoopGhost
import Derived.WalkMore
namespace Go.Proofs.Ytgfmcpipbmnagaa
open Go.RowKit
set_option linter.unusedVariables false

theorem dropShort_no1 (a : Option Addr) (g c : Nat) (l : List Int) (x : Int) (w : World) (hs : SrcV w a g (intz l)) (hl : l.length ≤ 1048576) (h0 : traceZ l = false) :
    Calls Try.prog 36 #[.slice a l.length c, .int .i64 x] w (SeqOut (ints []) ([] : List Nat).length false w) := by
  have F0 := isTrace_f l false h0 hl
  have HS := Lib.hid hs
  clear hs h0
  go_enter Try.func36, Try.ntmps36
  go_wp2
  go_step3
  go_wp2_with fail
  refine (F0.out _ _ _ _ (HS.out.below (by first | exact Below.refl _ _ | exact below_alloc _ _))).mono ?_
  rintro e w1 ⟨rfl, hb⟩
  have HB : Hid (Below w.heap.size w w1) := Lib.hid (by first | exact hb | exact (below_alloc w _).trans (hb.mono (below_alloc w _).size))
  clear hb
  go_wp2
  (first | go_ret | go_ret2)
  exact seq_no _ _ (by first | exact HB.out | exact HB.out.alloc HB.out.size _)
theorem dropShort_no2 (a : Option Addr) (g c : Nat) (l : List Int) (x : Int) (w : World) (hs : SrcV w a g (intz l)) (hl : l.length ≤ 1048576) (h0 : traceZ l = true) (h1 : okLen x = false) :
    Calls Try.prog 36 #[.slice a l.length c, .int .i64 x] w (SeqOut (ints []) ([] : List Nat).length false w) := by
  have F0 := isTrace_f l true h0 hl
  have F1 := isLen_f x false h1
  have HS := Lib.hid hs
  clear hs h0 h1
  go_enter Try.func36, Try.ntmps36
  go_wp2
  go_step3
  go_wp2_with fail
  refine (F0.out _ _ _ _ (HS.out.below (by first | exact Below.refl _ _ | exact below_alloc _ _))).mono ?_
  rintro e w1 ⟨rfl, hb⟩
  have HB : Hid (Below w.heap.size w w1) := Lib.hid (by first | exact hb | exact (below_alloc w _).trans (hb.mono (below_alloc w _).size))
  clear hb
  go_wp2_with fail
  refine (F1.out _).mono ?_
  rintro e wz1 ⟨rfl, hww⟩
  obtain rfl := hww.symm
  go_wp2
  (first | go_ret | go_ret2)
  exact seq_no _ _ (by first | exact HB.out | exact HB.out.alloc HB.out.size _)
theorem isDown_even (p : Nat) (hp : p ≤ 1048576) (h : p % 2 = 0) (w : World) : Calls Try.prog 62 #[.int .i64 p] w fun e w' => e = .returned (.bool true) ∧ w' = w := by
  have ht : Int.tmod (p : Int) 2 = 0 := by
    rcases par_facts p hp with ⟨_, h2⟩ | ⟨h1, _⟩
    · exact h2
    · omega
  clear h
  go_enter Try.func62, Try.ntmps62
  go_wp2
  go_ret
  exact ⟨rfl, rfl⟩
set_option maxHeartbeats 8000000 in
set_option maxRecDepth 8000 in
theorem dropShort_yes (a : Option Addr) (g c : Nat) (m : List Nat) (t : Nat) (w : World) (hs : SrcV w a g (ints m)) (hm : IsTr m) (ht0 : 1 ≤ t) (ht : t ≤ 999) :
    Calls Try.prog 36 #[.slice a m.length c, .int .i64 t] w (FinOut (dropTo m t m.length).1 w) := by
  obtain ⟨i0, hi, hz0, hz1, hz2⟩ := info_parts infoIntI
  have F := isTrace_m m hm
  have G1 := isLen_f (t : Int) true (okLen_of t ht0 ht)
  have HM := Lib.hid hm
  have hl := hm.len
  have hodd := hm.odd
  have HS := Lib.hid fun W hb => hs.below (w' := W) hb
  have HS0 := Lib.hid hs
  obtain rfl := hs.1 (by rw [ints_len]; omega)
  clear hs hm hodd
  go_enter Try.func36, Try.ntmps36
  go_wp2
  go_step3
  go_wp2_with fail
  refine (F.out _ _ _ _ HS0.out).mono ?_
  rintro e w1 ⟨rfl, hb⟩
  have HB := Lib.hid hb
  clear hb
  go_wp2_with fail
  refine (G1.out _).mono ?_
  rintro e w2 ⟨rfl, hww⟩
  obtain rfl := hww.symm
  have M0 : Hid ((w1.alloc (Obj.cells #[] 3)).ownsRow w.heap.size 3 1 (.slice (some ⟨w1.heap.size, 0, none⟩) 0 0) ([] : List Nat).length (ints [])) := Lib.hid (World.ownsRow_made (base := w.heap.size) w1 #[] 0 HB.out.size (by unfold maxLen; omega) rfl)
  go_wp2
  go_step3
  go_wp2
  go_loopg [6, 7] m.length (fun g1 lv fv wr => ∃ (k : Nat) (r : List Nat), k + g1 = m.length ∧ fv = .int .i64 (k : Int) ∧ wr.ownsRow w.heap.size 3 1 lv r.length (ints r) ∧ Hid (dropTo m t k = (r, 0)) ∧ Hid (Below w.heap.size w wr))
  case atStart => exact ⟨0, [], by omega, rfl, M0.out, Lib.hid rfl, Lib.hid (HB.out.alloc HB.out.size _)⟩
  case round =>
    obtain ⟨k, r, hkg, rfl, hown0, HE0, HB0⟩ := hrel
    obtain ⟨av, capv, rfl⟩ := row_form hown0
    obtain ⟨g1, rfl⟩ : ∃ g1, g1 = gk := ⟨_, rfl⟩
    go_wp2
    go_loopg [6, 7, 8, 9] g1 (fun g2 lv fv uv pv wr2 => ∃ (p u : Nat), p + g2 = m.length ∧ k ≤ p ∧ lv = .slice av r.length capv ∧ fv = .int .i64 (k : Int) ∧ uv = .int .i64 (u : Int) ∧ pv = .int .i64 (p : Int) ∧ wr2.ownsRow w.heap.size 3 1 (.slice av r.length capv) r.length (ints r) ∧ Hid (dropTo m t p = (r, u)) ∧ Hid (Below w.heap.size w wr2))
    case atStart => exact ⟨k, 0, hkg, Nat.le_refl _, rfl, rfl, rfl, rfl, hown0, HE0, HB0⟩
    case round =>
      obtain ⟨p, u, hpg, hkp, rfl, rfl, rfl, rfl, hown, HE, HB3⟩ := hrel
      have hub : u ≤ 999 * 143 ∧ r.length ≤ 286 := by
        have h1 := dropTo_bd HM.out t p (by omega)
        rw [HE.out] at h1
        simp only at h1
        omega
      obtain ⟨hu9, hr9⟩ := hub
      clear hown0
      by_cases hlt : p < m.length
      · have d1 := (HS.out wr HB3.out).2 p _ (ints_at hlt)
        have hx1 := (HM.out.at hlt).2
        have HU : Hid (p % 2 = 1 ∨ m[p] < t → dropTo m t (p + 1) = (r, u + m[p])) := Lib.hid fun h => by rw [dropTo_up hlt h, HE.out]
        have HF1 : Hid (¬ (p % 2 = 1 ∨ m[p] < t) → r = [] → dropTo m t (p + 1) = ([m[p]], 0)) := Lib.hid fun h h2 => by rw [dropTo_first hlt h (by rw [HE.out]; exact h2)]
        have HF2 : Hid (¬ (p % 2 = 1 ∨ m[p] < t) → r ≠ [] → dropTo m t (p + 1) = (r ++ [u, m[p]], 0)) := Lib.hid fun h h2 => by rw [dropTo_more hlt h (by rw [HE.out]; exact h2), HE.out]
        have HX2 := Lib.hid (ints_at hlt)
        generalize m[p] = x at d1 hx1 HU HF1 HF2 HX2
        have k0 : (0 : Int) ≤ (p : Int) := by omega
        have k1 : (p : Int) < (m.length : Int) := by omega
        have HL : Hid (∀ q, (Value.slice av r.length capv).ownBlock = some q → w.heap.size ≤ q ∧ q < wr.heap.size) := Lib.hid hown.lt
        obtain ⟨a1, a2, a3, a4⟩ := app_facts r.length (by omega)
        obtain ⟨a5, a6, _, _⟩ := app_facts (r.length + 1) (by omega)
        have hsz := HB3.out.size
        rcases par_facts p (by omega) with ⟨hp, htm⟩ | ⟨hp, htm⟩
        · by_cases hxt : x < t
          · have HN := Lib.hid (HU.out (.inr hxt))
            have hxt' : (x : Int) < (t : Int) := by omega
            clear HU HF1 HF2 hp hxt a1 a2 a3 a4 a5 a6 hsz
            go_wp2
            go_roundg (m.length - (p + 1))
            case measure => clear htm; omega
            case rel => exact ⟨p + 1, u + x, by clear htm; omega, by omega, rfl, rfl, by go_num, by go_num, hown, HN, HB3⟩
          · have HDn := Lib.hid fun w => isDown_even p (by omega) hp w
            have hc : ¬ (p % 2 = 1 ∨ x < t) := by omega
            have hxt' : ¬ (x : Int) < (t : Int) := by omega
            by_cases hr0 : r = []
            · have HN := Lib.hid (HF1.out hc hr0)
              subst hr0
              clear HU HF1 HF2 hp hxt hc
              have hown0 : wr.ownsRow w.heap.size 3 1 (.slice av 0 capv) 0 [] := hown
              have HL0 : Hid (∀ q, (Value.slice av 0 capv).ownBlock = some q → w.heap.size ≤ q ∧ q < wr.heap.size) := HL
              clear hown HL
              simp only [List.length_nil] at *
              go_wp2_with fail
              refine (HDn.out _).mono ?_
              rintro e w5 ⟨rfl, hww⟩
              obtain rfl := hww.symm
              go_wp2_with (at_builtin; refine wpList_append_own _ rfl _ _ 22 rfl w.heap.size 3 i0 (.int .i64 0) 1 8 Try.underlying22 hi hz0 hz1 hz2 rfl (by decide) _ _ _ rfl (hown0.alloc _) ⟨wr.heap.size, 0, none⟩ 1 1 [.int .i64 (x : Int)] rfl rfl (cell_one_new _ _ _) (by simp [Value.oneCell']) a1 a2 (Nat.le_trans hsz (below_alloc wr _).size) ?_; intro v' w7 hown' hgrow _)
              have HW7 : Hid (w7.ownsRow w.heap.size 3 1 v' ([x] : List Nat).length (ints [x])) := Lib.hid (by simpa [ints] using hown')
              have HB7 : Hid (Below w.heap.size w w7) := Lib.hid ((HB3.out.alloc HB3.out.size _).grown hgrow (Nat.le_trans HB3.out.size (below_alloc wr _).size) (fun q e => (HL0.out q e).1))
              clear hown' hgrow hown0 a1 a2 a3 a4 a5 a6 hsz htm
              go_wp2
              go_roundg (m.length - (p + 1))
              case measure => omega
              case rel => exact ⟨p + 1, [x], by omega, by go_num, HW7.out, HN, HB7⟩
            · have HN := Lib.hid (HF2.out hc hr0)
              have hn0 : 0 < r.length := List.length_pos_iff.2 hr0
              have b1 : (0 : Int) < (r.length : Int) := by omega
              have hre : r.length + 1 + 1 = (r ++ [u, x]).length := by simp
              have HRe := Lib.hid hre
              clear HU HF1 HF2 hp hxt hc hr0 hre
              generalize hrl : r.length = n at *
              have HRl := Lib.hid hrl
              clear hrl
              go_wp2_with fail
              refine (HDn.out _).mono ?_
              rintro e w5 ⟨rfl, hww⟩
              obtain rfl := hww.symm
              go_wp2_with (at_builtin; first | (refine wpList_append_own _ rfl _ _ 22 rfl w.heap.size 3 i0 (.int .i64 0) 1 8 Try.underlying22 hi hz0 hz1 hz2 rfl (by decide) _ _ _ rfl (hown.alloc _) ⟨wr.heap.size, 0, none⟩ 1 1 [.int .i64 (u : Int)] rfl rfl (cell_one_new _ _ _) (by simp [Value.oneCell']) a1 a2 (Nat.le_trans hsz (below_alloc wr _).size) ?_; intro v' w7 hown' hgrow _; have hownB : w7.ownsRow w.heap.size 3 1 v' (n + 1) (ints (r ++ [u])) := (by rw [ints_snoc]; exact hown'); have HB7 : Hid (Below w.heap.size w w7) := Lib.hid ((HB3.out.alloc HB3.out.size _).grown hgrow (Nat.le_trans HB3.out.size (below_alloc wr _).size) (fun q e => (HL.out q e).1)); obtain ⟨av2, capv2, rfl⟩ := row_form hownB; have d2 := (HS.out w7 HB7.out).2 p _ HX2.out; have HL2 : Hid (∀ q, (Value.slice av2 (n + 1) capv2).ownBlock = some q → w.heap.size ≤ q ∧ q < w7.heap.size) := Lib.hid hownB.lt; have hsz7 := HB7.out.size; clear hown' hgrow hown d1) | (refine wpList_append_own _ rfl _ _ 22 rfl w.heap.size 3 i0 (.int .i64 0) 1 8 Try.underlying22 hi hz0 hz1 hz2 rfl (by decide) _ _ _ rfl (hownB.alloc _) ⟨w7.heap.size, 0, none⟩ 1 1 [.int .i64 (x : Int)] rfl rfl (cell_one_new _ _ _) (by simp [Value.oneCell']) a5 a6 (Nat.le_trans hsz7 (below_alloc w7 _).size) ?_; intro v8 w8 hown8 hgrow8 _))
              have HW8 : Hid (w8.ownsRow w.heap.size 3 1 v8 (r ++ [u, x]).length (ints (r ++ [u, x]))) := Lib.hid (by
                have e : ints (r ++ [u, x]) = ints (r ++ [u]) ++ [.int .i64 (x : Int)] := by simp [ints]
                rw [e, ← HRe.out]; exact hown8)
              have HB8 : Hid (Below w.heap.size w w8) := Lib.hid ((HB7.out.alloc HB7.out.size _).grown hgrow8 (Nat.le_trans HB7.out.size (below_alloc w7 _).size) (fun q e => (HL2.out q e).1))
              clear hown8 hgrow8 hownB a1 a2 a3 a4 a5 a6 hsz hsz7 htm b1
              go_wp2
              go_roundg (m.length - (p + 1))
              case measure => omega
              case rel => exact ⟨p + 1, r ++ [u, x], by omega, by go_num, HW8.out, HN, HB8⟩
        · have HN := Lib.hid (HU.out (.inl hp))
          clear HU HF1 HF2 hp a1 a2 a3 a4 a5 a6 hsz
          go_wp2
          go_roundg (m.length - (p + 1))
          case measure => clear htm; omega
          case rel => exact ⟨p + 1, u + x, by clear htm; omega, by omega, rfl, rfl, by go_num, by go_num, hown, HN, HB3⟩
      · obtain rfl : p = m.length := by omega
        have HFl : Hid ((dropTo m t m.length).1 = r) := Lib.hid (by rw [HE.out])
        go_wp2_with fail
        refine (ifTrace_out _ r _ w hown (by omega) HB3.out).mono ?_
        rintro e w8 ⟨v, ok, rfl, hf⟩
        have HFo := Lib.hid hf
        clear hf
        go_wp2
        (first | go_ret | go_ret2 | (rw [Exit.noGoto_ret]; go_ret2))
        rw [HFl.out]
        exact HFo.out
theorem dropShort_both (l0 : List Int) (x : Int) (hl : l0.length ≤ 1048576) (hi : InI l0) (wx : (Lit.int .i64 x).wf = true) : ∃ (l : List Nat) (R1 : Bool), l.length ≤ 1048576 ∧
    Hid (∀ W a g c, SrcV W a g (intz l0) → Calls Try.prog 35 #[.slice a l0.length c, .int .i64 x] W (SeqOut (ints l) l.length R1 W)) ∧
    Hid (∀ W a g c, SrcV W a g (intz l0) → Calls Try.prog 36 #[.slice a l0.length c, .int .i64 x] W (SeqOut (ints l) l.length R1 W)) := by
  cases h : traceZ l0
  · exact ⟨[], false, by simp, fun W a g c hs => sDropShort_no1 a g c l0 x W hs hl h, fun W a g c hs => dropShort_no1 a g c l0 x W hs hl h⟩
  · cases h2 : okLen x
    · exact ⟨[], false, by simp, fun W a g c hs => sDropShort_no2 a g c l0 x W hs hl h h2, fun W a g c hs => dropShort_no2 a g c l0 x W hs hl h h2⟩
    · obtain ⟨m, rfl, hm⟩ := traceZ_nat h
      obtain ⟨t, rfl, ht0, ht⟩ := okLen_nat h2
      rw [zs_len, zs_ints]
      exact ⟨(finR (dropTo m t m.length).1).1, (finR (dropTo m t m.length).1).2, finR_len (by have := (dropTo_bd hm t m.length (Nat.le_refl _)).2; have := hm.len; omega), fun W a g c hs => sDropShort_yes a g c m t W hs hm ht0 ht, fun W a g c hs => dropShort_yes a g c m t W hs hm ht0 ht⟩
end Go.Proofs.Ytgfmcpipbmnagaa
