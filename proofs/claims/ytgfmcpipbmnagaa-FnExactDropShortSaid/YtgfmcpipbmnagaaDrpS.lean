/-
  DropShort, the model's. Used by the claim on DropShort.
-/
import Derived.Test.YtgfmcpipbmnagaaFilS
namespace Go.Proofs.Ytgfmcpipbmnagaa
open Go.RowKit
set_option linter.unusedVariables false

theorem sDropShort_no1 (a : Option Addr) (g c : Nat) (l : List Int) (x : Int) (w : World) (hs : SrcV w a g (intz l)) (hl : l.length ≤ 1048576) (h0 : traceZ l = false) :
    Calls Try.prog 35 #[.slice a l.length c, .int .i64 x] w (SeqOut (ints []) ([] : List Nat).length false w) := by
  have F0 := sTrace_f l false h0 hl
  have HS := Lib.hid hs
  clear hs h0
  go_enter Try.func35, Try.ntmps35
  go_wp2_with fail
  refine (F0.out _ _ _ _ (HS.out.below (by first | exact Below.refl _ _ | exact below_alloc _ _))).mono ?_
  rintro e w1 ⟨rfl, hb⟩
  have HB : Hid (Below w.heap.size w w1) := Lib.hid (by first | exact hb | exact (below_alloc w _).trans (hb.mono (below_alloc w _).size))
  clear hb
  go_wp2
  (first | go_ret | go_ret2)
  exact seq_no _ _ (by first | exact HB.out | exact HB.out.alloc HB.out.size _)
theorem sDropShort_no2 (a : Option Addr) (g c : Nat) (l : List Int) (x : Int) (w : World) (hs : SrcV w a g (intz l)) (hl : l.length ≤ 1048576) (h0 : traceZ l = true) (h1 : okLen x = false) :
    Calls Try.prog 35 #[.slice a l.length c, .int .i64 x] w (SeqOut (ints []) ([] : List Nat).length false w) := by
  have F0 := sTrace_f l true h0 hl
  have F1 := sLen_f x false h1
  have HS := Lib.hid hs
  clear hs h0 h1
  go_enter Try.func35, Try.ntmps35
  go_wp2_with fail
  refine (F0.out _ _ _ _ (HS.out.below (by first | exact Below.refl _ _ | exact below_alloc _ _))).mono ?_
  rintro e w1 ⟨rfl, hb⟩
  have HB : Hid (Below w.heap.size w w1) := Lib.hid (by first | exact hb | exact (below_alloc w _).trans (hb.mono (below_alloc w _).size))
  clear hb
  go_wp2_with fail
  refine (F1.out _).mono ?_
  rintro e wz1 ⟨rfl, hww⟩
  obtain rfl := hww.symm
  go_wp2
  (first | go_ret | go_ret2)
  exact seq_no _ _ (by first | exact HB.out | exact HB.out.alloc HB.out.size _)
theorem app_facts (n : Nat) (h : n ≤ 1048576) : n + 1 ≤ maxLen ∧ (n + 1) * 8 ≤ 140737488355328 ∧ n + 2 ≤ maxLen ∧ (n + 2) * 8 ≤ 140737488355328 := by
  unfold maxLen; omega
set_option maxHeartbeats 8000000 in
set_option maxRecDepth 8000 in
theorem sDropShort_yes (a : Option Addr) (g c : Nat) (m : List Nat) (t : Nat) (w : World) (hs : SrcV w a g (ints m)) (hm : IsTr m) (ht0 : 1 ≤ t) (ht : t ≤ 999) :
    Calls Try.prog 35 #[.slice a m.length c, .int .i64 t] w (FinOut (dropTo m t m.length).1 w) := by
  obtain ⟨i0, hi, hz0, hz1, hz2⟩ := info_parts infoIntI
  have F := sTrace_m m hm
  have G1 := sLen_f (t : Int) true (okLen_of t ht0 ht)
  have HM := Lib.hid hm
  have hl := hm.len
  have hodd := hm.odd
  have HS := Lib.hid fun W hb => hs.below (w' := W) hb
  have HS0 := Lib.hid hs
  obtain rfl := hs.1 (by rw [ints_len]; omega)
  clear hs hm hodd
  go_enter Try.func35, Try.ntmps35
  go_wp2_with fail
  refine (F.out _ _ _ _ HS0.out).mono ?_
  rintro e w1 ⟨rfl, hb⟩
  have HB := Lib.hid hb
  clear hb
  go_wp2_with fail
  refine (G1.out _).mono ?_
  rintro e w2 ⟨rfl, hww⟩
  obtain rfl := hww.symm
  have M0 : Hid ((w1.alloc (Obj.cells #[] 3)).ownsRow w.heap.size 3 1 (.slice (some ⟨w1.heap.size, 0, none⟩) 0 0) ([] : List Nat).length (ints [])) := Lib.hid (World.ownsRow_made (base := w.heap.size) w1 #[] 0 HB.out.size (by unfold maxLen; omega) rfl)
  go_wp2
  go_loopw [6, 7, 8] (fun pv uv v wr => ∃ (k : Nat) (r : List Nat) (u : Nat), v = .int .i64 (k : Int) ∧ k ≤ m.length ∧ uv = .int .i64 (u : Int) ∧ wr.ownsRow w.heap.size 3 1 pv r.length (ints r) ∧ Hid (dropTo m t k = (r, u)) ∧ Hid (Below w.heap.size w wr)) (fun _ _ v _ => m.length - (intOf v).toNat)
  case atStart => exact ⟨0, [], 0, rfl, Nat.zero_le _, rfl, M0.out, Lib.hid rfl, Lib.hid (HB.out.alloc HB.out.size _)⟩
  case round =>
    obtain ⟨k, r, u, rfl, hk, rfl, hown, HE, HB3⟩ := hrel
    have hub : u ≤ 999 * 143 ∧ r.length ≤ 286 := by
      have h1 := dropTo_bd HM.out t k (by omega)
      rw [HE.out] at h1
      simp only at h1
      omega
    obtain ⟨hu9, hr9⟩ := hub
    obtain ⟨av, capv, rfl⟩ := row_form hown
    by_cases hlt : k < m.length
    · have d1 := (HS.out wr HB3.out).2 k _ (ints_at hlt)
      have hx1 := (HM.out.at hlt).2
      have HU : Hid (k % 2 = 1 ∨ m[k] < t → dropTo m t (k + 1) = (r, u + m[k])) := Lib.hid fun h => by rw [dropTo_up hlt h, HE.out]
      have HF1 : Hid (¬ (k % 2 = 1 ∨ m[k] < t) → r = [] → dropTo m t (k + 1) = ([m[k]], 0)) := Lib.hid fun h h2 => by rw [dropTo_first hlt h (by rw [HE.out]; exact h2)]
      have HF2 : Hid (¬ (k % 2 = 1 ∨ m[k] < t) → r ≠ [] → dropTo m t (k + 1) = (r ++ [u, m[k]], 0)) := Lib.hid fun h h2 => by rw [dropTo_more hlt h (by rw [HE.out]; exact h2), HE.out]
      generalize m[k] = x at d1 hx1 HU HF1 HF2
      have k0 : (0 : Int) ≤ (k : Int) := by omega
      have k1 : (k : Int) < (m.length : Int) := by omega
      have HL : Hid (∀ q, (Value.slice av r.length capv).ownBlock = some q → w.heap.size ≤ q ∧ q < wr.heap.size) := Lib.hid hown.lt
      have HMl : Hid (m.length - (k + 1) < m.length - k) := Lib.hid (by omega)
      obtain ⟨a1, a2, a3, a4⟩ := app_facts r.length (by omega)
      have hsz := HB3.out.size
      rcases par_facts k (by omega) with ⟨hp, htm⟩ | ⟨hp, htm⟩
      · by_cases hxt : x < t
        · have HN := Lib.hid (HU.out (.inr hxt))
          have hxt' : (x : Int) < (t : Int) := by omega
          clear HU HF1 HF2 hp hxt a1 a2 a3 a4 hsz
          go_wp2
          go_roundw
          case rel => exact ⟨k + 1, r, u + x, by go_num, by omega, by go_num, hown, HN, HB3⟩
          case measure => clear htm; simp [intOf]; omega
        · have hc : ¬ (k % 2 = 1 ∨ x < t) := by omega
          have hxt' : ¬ (x : Int) < (t : Int) := by omega
          by_cases hr0 : r = []
          · have HN := Lib.hid (HF1.out hc hr0)
            subst hr0
            clear HU HF1 HF2 hp hxt hc
            have hown0 : wr.ownsRow w.heap.size 3 1 (.slice av 0 capv) 0 [] := hown
            have HL0 : Hid (∀ q, (Value.slice av 0 capv).ownBlock = some q → w.heap.size ≤ q ∧ q < wr.heap.size) := HL
            clear hown HL
            simp only [List.length_nil] at *
            go_wp2_with (at_builtin; refine wpList_append_own _ rfl _ _ 22 rfl w.heap.size 3 i0 (.int .i64 0) 1 8 Try.underlying22 hi hz0 hz1 hz2 rfl (by decide) _ _ _ rfl (hown0.alloc _) ⟨wr.heap.size, 0, none⟩ 1 1 [.int .i64 (x : Int)] rfl rfl (cell_one_new _ _ _) (by simp [Value.oneCell']) a1 a2 (Nat.le_trans hsz (below_alloc wr _).size) ?_; intro v' w7 hown' hgrow _)
            have HW7 : Hid (w7.ownsRow w.heap.size 3 1 v' ([x] : List Nat).length (ints [x])) := Lib.hid (by simpa [ints] using hown')
            have HB7 : Hid (Below w.heap.size w w7) := Lib.hid ((HB3.out.alloc HB3.out.size _).grown hgrow (Nat.le_trans HB3.out.size (below_alloc wr _).size) (fun q e => (HL0.out q e).1))
            clear hown' hgrow hown0 a1 a2 a3 a4 hsz
            go_wp2
            go_roundw
            case rel => exact ⟨k + 1, [x], 0, by go_num, by omega, rfl, HW7.out, HN, HB7⟩
            case measure => clear htm; simp [intOf]; omega
          · have HN := Lib.hid (HF2.out hc hr0)
            have hn0 : 0 < r.length := List.length_pos_iff.2 hr0
            have b0 : ((r.length : Int) == 0) = false := beq_false_of_ne (by omega)
            have hre : r.length + 2 = (r ++ [u, x]).length := by simp
            have HRe := Lib.hid hre
            clear HU HF1 HF2 hp hxt hc hr0 hre
            generalize hrl : r.length = n at *
            have HRl := Lib.hid hrl
            clear hrl
            go_wp2_with (at_builtin; refine wpList_append_own _ rfl _ _ 22 rfl w.heap.size 3 i0 (.int .i64 0) 1 8 Try.underlying22 hi hz0 hz1 hz2 rfl (by decide) _ _ _ rfl (hown.alloc _) ⟨wr.heap.size, 0, none⟩ 2 2 [.int .i64 (u : Int), .int .i64 (x : Int)] rfl rfl (cell_two_new _ _ _ _) (by simp [Value.oneCell']) a3 a4 (Nat.le_trans hsz (below_alloc wr _).size) ?_; intro v' w7 hown' hgrow _)
            have HW7 : Hid (w7.ownsRow w.heap.size 3 1 v' (r ++ [u, x]).length (ints (r ++ [u, x]))) := Lib.hid (by rw [ints_two, ← HRe.out]; exact hown')
            have HB7 : Hid (Below w.heap.size w w7) := Lib.hid ((HB3.out.alloc HB3.out.size _).grown hgrow (Nat.le_trans HB3.out.size (below_alloc wr _).size) (fun q e => (HL.out q e).1))
            clear hown' hgrow hown a1 a2 a3 a4 hsz b0
            go_wp2
            go_roundw
            case rel => exact ⟨k + 1, r ++ [u, x], 0, by go_num, by omega, rfl, HW7.out, HN, HB7⟩
            case measure => clear htm; simp [intOf]; omega
      · have HN := Lib.hid (HU.out (.inl hp))
        clear HU HF1 HF2 hp a1 a2 a3 a4 hsz
        go_wp2
        go_roundw
        case rel => exact ⟨k + 1, r, u + x, by go_num, by omega, by go_num, hown, HN, HB3⟩
        case measure => clear htm; simp [intOf]; omega
    · obtain rfl : k = m.length := by omega
      have HFl : Hid ((dropTo m t m.length).1 = r) := Lib.hid (by rw [HE.out])
      go_wp2_with fail
      refine (sMade_out _ r _ w hown (by omega) HB3.out).mono ?_
      rintro e w8 ⟨v, ok, rfl, hf⟩
      have HFo := Lib.hid hf
      clear hf
      go_wp2
      (first | go_ret | go_ret2)
      rw [HFl.out]
      exact HFo.out
end Go.Proofs.Ytgfmcpipbmnagaa
