/-
  FillShort, the program's and the model's. Used by the claim on FillShort.
-/
import Derived.Test.YtgfmcpipbmnagaaMadW
import Derived.Deep.AppendLies
namespace Go.Proofs.Ytgfmcpipbmnagaa
open Go.RowKit
set_option linter.unusedVariables false

theorem isLen_f (x : Int) (B : Bool) (h : okLen x = B) : Hid (∀ W, Calls Try.prog 48 #[.int .i64 x] W fun e W' => e = .returned (.bool B) ∧ W' = W) := fun W => by
  rw [← h]; exact isLen_any x W
theorem sLen_f (x : Int) (B : Bool) (h : okLen x = B) : Hid (∀ W, Calls Try.prog 61 #[.int .i64 x, .int .i64 1, .int .i64 999] W fun e W' => e = .returned (.bool B) ∧ W' = W) := fun W => by
  rw [← h]; exact in_any x 1 999 W
theorem okLen_nat {x : Int} (h : okLen x = true) : ∃ u : Nat, x = (u : Int) ∧ 1 ≤ u ∧ u ≤ 999 := by
  have := (okLen_iff x).1 h
  exact ⟨x.toNat, by omega, by omega, by omega⟩
theorem okLen_of (u : Nat) (h0 : 1 ≤ u) (h1 : u ≤ 999) : okLen (u : Int) = true := (okLen_iff _).2 (by omega)
theorem rowI_last {w : World} {base : Nat} {v : Value} {r : List Nat} {z : Nat} (h : w.ownsRow base 3 1 v (r.length + 1) (ints (r ++ [z]))) :
    ∃ g cap, v = .slice (some ⟨g, 0, none⟩) (r.length + 1) cap ∧ base ≤ g ∧ g < w.heap.size ∧ w.cell? ⟨g, r.length, none⟩ = some (.int .i64 (z : Int)) ∧ w.frozen? ⟨g, r.length, none⟩ = false ∧ ∀ y : Nat, (w.setCell ⟨g, r.length, none⟩ (.int .i64 (y : Int))).ownsRow base 3 1 v (r.length + 1) (ints (r ++ [y])) := by
  have h' := h
  have hl : (ints r).length = r.length := ints_len r
  rcases h.2 with ⟨_, h1⟩ | ⟨g, cap, cur, rfl, hg, hh, _⟩
  · omega
  · refine ⟨g, cap, rfl, hg, (Array.getElem?_eq_some_iff.1 hh).1, ?_, by simp [World.frozen?, hh], fun y => ?_⟩
    · rw [h'.cellAt _ (by omega), ints_snoc, List.getElem?_append_right (by omega), hl]
      simp
    · have := (h'.stored r.length (.int .i64 (y : Int))).1
      rw [ints_snoc, List.set_append_right _ _ (by omega), hl, Nat.sub_self] at this
      rw [ints_snoc]
      exact this
theorem ints_two (r : List Nat) (x y : Nat) : ints (r ++ [x, y]) = ints r ++ [.int .i64 (x : Int), .int .i64 (y : Int)] := by simp [ints]
theorem fill_more_row (r : List Nat) (z u d : Nat) : ints (r ++ [z, u] ++ [d]) = ints (r ++ [z]) ++ [.int .i64 (u : Int), .int .i64 (d : Int)] := by simp [ints]
theorem sum_facts (x y : Nat) (h : x + y ≤ 1000000) : ∃ s : Nat, x + y = s ∧ (x : Int) + (y : Int) = (s : Int) ∧ wrap64 ((x : Int) + (y : Int)) = (s : Int) ∧ IntKind.i64.wrap ((x : Int) + (y : Int)) = (s : Int) ∧ wrap64 (s : Int) = (s : Int) ∧ IntKind.i64.wrap (s : Int) = (s : Int) := by
  have e : (x : Int) + (y : Int) = ((x + y : Nat) : Int) := by omega
  rw [e]
  exact ⟨x + y, rfl, rfl, nat_wrap (by omega), nat_wrap2 (by omega), nat_wrap (by omega), nat_wrap2 (by omega)⟩
theorem succ_facts (x s : Nat) (hs : x + 1 = s) (h : x ≤ 1000000) : (x : Int) + 1 = (s : Int) ∧ wrap64 ((x : Int) + 1) = (s : Int) ∧ IntKind.i64.wrap ((x : Int) + 1) = (s : Int) ∧ wrap64 (s : Int) = (s : Int) ∧ IntKind.i64.wrap (s : Int) = (s : Int) := by
  have e : (x : Int) + 1 = (s : Int) := by omega
  rw [e]
  exact ⟨rfl, nat_wrap (by omega), nat_wrap2 (by omega), nat_wrap (by omega), nat_wrap2 (by omega)⟩
theorem plus_two (x : Nat) (h : x ≤ 1000000) : wrap64 ((x : Int) + 2) = (x : Int) + 2 ∧ IntKind.i64.wrap ((x : Int) + 2) = (x : Int) + 2 := by
  have e : (x : Int) + 2 = ((x + 2 : Nat) : Int) := by omega
  rw [e]
  exact ⟨nat_wrap (by omega), nat_wrap2 (by omega)⟩
theorem minus_one (n : Nat) (h : n ≤ 1048576) : wrap64 (((n + 1 : Nat) : Int) - 1) = (n : Int) ∧ IntKind.i64.wrap (((n + 1 : Nat) : Int) - 1) = (n : Int) ∧ wrap64 ((n : Int) + 1 - 1) = (n : Int) ∧ IntKind.i64.wrap ((n : Int) + 1 - 1) = (n : Int) ∧ ((n + 1 : Nat) : Int) - 1 = (n : Int) ∧ (n : Int) + 1 - 1 = (n : Int) := by
  have e1 : ((n + 1 : Nat) : Int) - 1 = (n : Int) := by omega
  have e2 : (n : Int) + 1 - 1 = (n : Int) := by omega
  rw [e1, e2]
  exact ⟨nat_wrap (by omega), nat_wrap2 (by omega), nat_wrap (by omega), nat_wrap2 (by omega), rfl, rfl⟩
theorem sFillShort_no1 (a : Option Addr) (g c : Nat) (l : List Int) (x : Int) (w : World) (hs : SrcV w a g (intz l)) (hl : l.length ≤ 1048576) (h0 : traceZ l = false) :
    Calls Try.prog 33 #[.slice a l.length c, .int .i64 x] w (SeqOut (ints []) ([] : List Nat).length false w) := by
  have F0 := sTrace_f l false h0 hl
  have HS := Lib.hid hs
  clear hs h0
  go_enter Try.func33, Try.ntmps33
  go_wp2_with fail
  refine (F0.out _ _ _ _ (HS.out.below (by first | exact Below.refl _ _ | exact below_alloc _ _))).mono ?_
  rintro e w1 ⟨rfl, hb⟩
  have HB : Hid (Below w.heap.size w w1) := Lib.hid (by first | exact hb | exact (below_alloc w _).trans (hb.mono (below_alloc w _).size))
  clear hb
  go_wp2
  (first | go_ret | go_ret2)
  exact seq_no _ _ (by first | exact HB.out | exact HB.out.alloc HB.out.size _)
theorem sFillShort_no2 (a : Option Addr) (g c : Nat) (l : List Int) (x : Int) (w : World) (hs : SrcV w a g (intz l)) (hl : l.length ≤ 1048576) (h0 : traceZ l = true) (h1 : okLen x = false) :
    Calls Try.prog 33 #[.slice a l.length c, .int .i64 x] w (SeqOut (ints []) ([] : List Nat).length false w) := by
  have F0 := sTrace_f l true h0 hl
  have F1 := sLen_f x false h1
  have HS := Lib.hid hs
  clear hs h0 h1
  go_enter Try.func33, Try.ntmps33
  go_wp2_with fail
  refine (F0.out _ _ _ _ (HS.out.below (by first | exact Below.refl _ _ | exact below_alloc _ _))).mono ?_
  rintro e w1 ⟨rfl, hb⟩
  have HB : Hid (Below w.heap.size w w1) := Lib.hid (by first | exact hb | exact (below_alloc w _).trans (hb.mono (below_alloc w _).size))
  clear hb
  go_wp2_with fail
  refine (F1.out _).mono ?_
  rintro e wz1 ⟨rfl, hww⟩
  obtain rfl := hww.symm
  go_wp2
  (first | go_ret | go_ret2)
  exact seq_no _ _ (by first | exact HB.out | exact HB.out.alloc HB.out.size _)
set_option maxHeartbeats 8000000 in
set_option maxRecDepth 8000 in
theorem sFillShort_yes (a : Option Addr) (g c : Nat) (m : List Nat) (t : Nat) (w : World) (hs : SrcV w a g (ints m)) (hm : IsTr m) (ht0 : 1 ≤ t) (ht : t ≤ 999) :
    Calls Try.prog 33 #[.slice a m.length c, .int .i64 t] w (FinOut (fillL m t) w) := by
  obtain ⟨i0, hi, hz0, hz1, hz2⟩ := info_parts infoIntI
  have F := sTrace_m m hm
  have G1 := sLen_f (t : Int) true (okLen_of t ht0 ht)
  have HM := Lib.hid hm
  have hl := hm.len
  have hodd := hm.odd
  have HS := Lib.hid fun W hb => hs.below (w' := W) hb
  have HS0 := Lib.hid hs
  obtain rfl := hs.1 (by rw [ints_len]; omega)
  clear hs hm
  go_enter Try.func33, Try.ntmps33
  go_wp2_with fail
  refine (F.out _ _ _ _ HS0.out).mono ?_
  rintro e w1 ⟨rfl, hb⟩
  have HB := Lib.hid hb
  clear hb
  go_wp2_with fail
  refine (G1.out _).mono ?_
  rintro e w2 ⟨rfl, hww⟩
  obtain rfl := hww.symm
  have d0 := (HS.out w1 HB.out).2 0 _ (ints_at (show 0 < m.length by omega))
  have HE0 : Hid (fillTo m t 0 = ([], m[0]'(by omega))) := Lib.hid (by rw [fillTo, getD_tr (by omega)])
  generalize m[0]'(by omega) = x0 at d0 HE0
  have n0 : (0 : Int) < (m.length : Int) := by omega
  have n1 : 0 < m.length := by omega
  have M0 : Hid ((w1.alloc (Obj.cells #[.int .i64 (x0 : Int)] 3)).ownsRow w.heap.size 3 1 (.slice (some ⟨w1.heap.size, 0, none⟩) 1 1) 1 (ints [x0])) := Lib.hid (World.ownsRow_lit (base := w.heap.size) w1 #[.int .i64 (x0 : Int)] 1 HB.out.size (by unfold maxLen; omega) rfl)
  go_wp2
  clear d0
  go_loopw [6, 7] (fun pv v wr => ∃ (k : Nat) (r : List Nat) (z : Nat), v = .int .i64 ((2 * k + 1 : Nat) : Int) ∧ 2 * k + 1 ≤ m.length ∧ wr.ownsRow w.heap.size 3 1 pv (r.length + 1) (ints (r ++ [z])) ∧ Hid (fillTo m t k = (r, z)) ∧ Hid (Below w.heap.size w wr)) (fun _ v _ => m.length - (intOf v).toNat)
  case atStart => exact ⟨0, [], x0, rfl, by omega, M0.out, HE0, Lib.hid (HB.out.alloc HB.out.size _)⟩
  case round =>
    obtain ⟨k, r, z, rfl, hk, hown, HE, HB3⟩ := hrel
    have hzb : z ≤ 999 * 143 ∧ r.length ≤ 143 := by
      have h1 := fillTo_bd HM.out t k (by omega)
      rw [HE.out] at h1
      simp only at h1
      omega
    obtain ⟨hz9, hr9⟩ := hzb
    by_cases hlt : 2 * k + 1 < m.length
    · have hlt2 : 2 * k + 2 < m.length := by omega
      have d1 := (HS.out wr HB3.out).2 (2 * k + 1) _ (ints_at hlt)
      have d2 := (HS.out wr HB3.out).2 (2 * k + 2) _ (ints_at hlt2)
      have HNl : Hid (m[2 * k + 1] < t → fillTo m t (k + 1) = (r, z + (m[2 * k + 1] + m[2 * k + 2]))) := Lib.hid fun h => by rw [fillTo_less hlt2 h, HE.out]
      have HNm : Hid (¬ m[2 * k + 1] < t → fillTo m t (k + 1) = (r ++ [z, m[2 * k + 1]], m[2 * k + 2])) := Lib.hid fun h => by rw [fillTo_more hlt2 h, HE.out]
      have hx1 := (HM.out.at hlt).2
      have hx2 := (HM.out.at hlt2).2
      generalize m[2 * k + 1] = up at d1 HNl HNm hx1
      generalize m[2 * k + 2] = dn at d2 HNl HNm hx2
      obtain ⟨j, hj⟩ : ∃ j : Nat, 2 * k + 1 = j := ⟨_, rfl⟩
      have hj2 : 2 * k + 2 = j + 1 := by omega
      have HJ : Hid (((2 * (k + 1) + 1 : Nat) : Int) = (j : Int) + 2 ∧ 2 * (k + 1) + 1 ≤ m.length) := Lib.hid (by omega)
      rw [hj] at d1 hlt ⊢
      rw [hj2] at d2 hlt2
      obtain ⟨j1, hj1⟩ : ∃ j1 : Nat, j + 1 = j1 := ⟨_, rfl⟩
      rw [hj1] at d2 hlt2
      have k0 : (0 : Int) ≤ (j : Int) := by omega
      have k1 : (j : Int) < (m.length : Int) := by omega
      have k2 : (j1 : Int) < (m.length : Int) := by omega
      have k3 : (0 : Int) ≤ (j1 : Int) := by omega
      have hsum1 : up + dn ≤ 1000000 := by omega
      have hsum2 : z + (up + dn) ≤ 1000000 := by omega
      have hsum3 : z + up ≤ 1000000 := by omega
      have hr6 : r.length ≤ 1048576 := by omega
      have hr7 : r.length ≤ 1000000000000 := by omega
      have l1 : (r.length : Int) < ((r.length + 1 : Nat) : Int) := by omega
      have l2 : (r.length : Int) < (r.length : Int) + 1 := by omega
      have hmx : r.length + 1 + 2 ≤ maxLen := by unfold maxLen; omega
      have hby : (r.length + 1 + 2) * 8 ≤ 140737488355328 := by omega
      obtain ⟨av, capv, rfl⟩ := row_form hown
      have hsz := HB3.out.size
      have q12 := plus_two j (by omega)
      obtain ⟨k6, k5, k4, k7, k8⟩ := succ_facts j j1 hj1 (by omega)
      clear hj hj2 hj1
      by_cases hup : up < t
      · have hup' : (up : Int) < (t : Int) := by omega
        have HN := Lib.hid (HNl.out hup)
        have HOw := Lib.hid hown
        clear HNl HNm hup
        obtain ⟨gf, cap7, hv7, hg1, hg2, hc7, hf7, hst⟩ := rowI_last hown
        injection hv7 with hv8 _ hv9
        subst hv8 hv9
        obtain ⟨t1, t2, t3, t4, t5, t6⟩ := minus_one r.length hr6
        have t7 : wrap64 (r.length : Int) = (r.length : Int) := nat_wrap hr7
        have t8 : IntKind.i64.wrap (r.length : Int) = (r.length : Int) := nat_wrap2 hr7
        obtain ⟨s1, hs1, s11, s12, s13, s14, s15⟩ := sum_facts z up hsum3
        obtain ⟨s2, hs2, s21, s22, s23, s24, s25⟩ := sum_facts s1 dn (by rw [← hs1, Nat.add_assoc]; exact hsum2)
        have hs3 : z + (up + dn) = s2 := by rw [← hs2, ← hs1, Nat.add_assoc]
        rw [hs3] at HN
        have HSt := Lib.hid (hst s2)
        have HBs : Hid (Below w.heap.size w (wr.setCell ⟨gf, r.length, none⟩ (.int .i64 (s2 : Int)))) := Lib.hid (HB3.out.setCell (p := ⟨gf, r.length, none⟩) hg1 _)
        clear hst hg1 hg2 hown hs1 hs2 hs3
        go_wp2
        go_region
        clear k4 k5 k6 k7 k8 q12 hmx hby hsum1 hsum2 hsum3 hr6 hr7 l1 l2 k2 k3 hlt2
        clear t1 t2 t3 t4 t5 t6 t7 t8 s11 s12 s13 s14 s15 s21 s22 s23 s24 s25
        go_wp2
        go_roundw
        case rel => exact ⟨k + 1, r, s2, by rw [HJ.out.1], HJ.out.2, HSt.out, HN, Lib.hid (by first | exact HBs.out | exact HBs.out.trans ⟨rfl, rfl, rfl, Nat.le_refl _, fun _ _ => rfl⟩)⟩
        case measure => simp [intOf]; omega
      · have hup' : ¬ (up : Int) < (t : Int) := by omega
        have hup2 : (t : Int) ≤ (up : Int) := by omega
        have HN := Lib.hid (HNm.out hup)
        have HLd : Hid (∀ q, (Value.slice av (r.length + 1) capv).ownBlock = some q → w.heap.size ≤ q ∧ q < wr.heap.size) := Lib.hid hown.lt
        clear HNl HNm hup
        go_wp2
        go_region_law
          (refine step_append_lies _ (by rfl) _ _ _ (by rfl) w.heap.size 3 i0 _ 1 8 Try.underlying22 hi hz0 hz1 hz2 rfl (by decide) (.slice av (r.length + 1) capv) (r.length + 1) (ints (r ++ [z])) (by rfl) ((hown.alloc _).drew)
              ⟨wr.heap.size, 0, none⟩ 2 2 [.int .i64 (up : Int), .int .i64 (dn : Int)] (by rfl) (by rfl) (World.news_of_block (cs := #[.int .i64 (up : Int), .int .i64 (dn : Int)]) (t := 3) (fr := (0, 0)) (heap_alloc_new wr _)) (by simp [Value.oneCell'])
              (by decide) hmx hby (Nat.le_trans hsz (below_alloc wr _).size) (wr.heap.size + 1) (by simp) ?_; intro gg capg w4 hown4 hgrow hat hglt)
        all_goals (
          have HW7 : Hid (w4.ownsRow w.heap.size 3 1 (.slice (some ⟨gg, 0, none⟩) (r.length + 1 + 2) capg) ((r ++ [z, up]).length + 1) (ints (r ++ [z, up] ++ [dn]))) := Lib.hid (by
            rw [fill_more_row]
            have e : (r ++ [z, up]).length + 1 = r.length + 1 + 2 := by simp
            rw [e]; exact hown4)
          have HB7 : Hid (Below w.heap.size w w4) := Lib.hid (by
            have h1 : Below w.heap.size w ((wr.alloc (.cells #[.int .i64 (up : Int), .int .i64 (dn : Int)] 3)).drew) := (HB3.out.alloc HB3.out.size _).drew
            exact h1.grown hgrow h1.size (fun q e => (HLd.out q e).1))
          clear hown4 hgrow hat hglt hown
          clear k4 k5 k6 k7 k8 q12 hmx hby hsum1 hsum2 hsum3 hr6 hr7 l1 l2 k2 k3 hlt2
          go_wp2
          go_roundw
          case rel => exact ⟨k + 1, r ++ [z, up], dn, by rw [HJ.out.1], HJ.out.2, HW7.out, HN, HB7⟩
          case measure => simp [intOf]; omega)
    · have hke : k = m.length / 2 := by omega
      have HFl : Hid (fillL m t = r ++ [z]) := Lib.hid (by rw [fillL, ← hke, HE.out])
      go_wp2_with fail
      refine (sMade_out _ (r ++ [z]) _ w (by simpa using hown) (by simp; omega) HB3.out).mono ?_
      rintro e w8 ⟨v, ok, rfl, hf⟩
      have HFo := Lib.hid hf
      clear hf
      go_wp2
      (first | go_ret | go_ret2)
      rw [HFl.out]
      exact HFo.out
end Go.Proofs.Ytgfmcpipbmnagaa
