/-
  SplitLetters of the model, and both together. Used by the claims on chapter 6.
-/
import Derived.Test.YtgdiffdpjpkleaaSpW
namespace Go.Proofs.Ytgdiffdpjpkleaa
open Go.RowKit Go.Maps Go.WideMaps
set_option linter.unusedVariables false

theorem seq_src {W : World} {base : Nat} {e : TypeId} {size : Nat} {v : Value} {n : Nat} {vs : List Value} (h : W.ownsRow base e size v n vs) : ∃ a g c, v = .slice a n c ∧ SrcV W a g vs := by
  obtain ⟨a, g, c, h1, h2, _, _⟩ := seq_of_row h
  exact ⟨a, g, c, h1, h2⟩
set_option maxHeartbeats 8000000 in
set_option maxRecDepth 8000 in
theorem sSplitLetters_any (a : Option Addr) (b o c : Nat) (xs : List ByteArray) (i : Int) (w : World) (h : ListIn w a b o xs) :
    Calls Try.prog 49 #[.agg #[.slice a xs.length c], .int .i64 i] w (SeqOut (prs (spL xs i)) (spL xs i).length (marksR xs i).2 w) := by
  have hl := h.len
  have F := Lib.hid fun W hb => sLetter_any a b o c xs i W (h.below (w' := W) hb)
  have HS := Lib.hid h
  have e0 : (w.alloc (.cells #[.slice a xs.length c] 32)).heap.size = w.heap.size + 1 := by simp
  have HM0 : Hid (((w.alloc (.cells #[.slice a xs.length c] 32)).alloc (Obj.cells #[] 79)).ownsRow (w.heap.size + 1) 79 2 (.slice (some ⟨w.heap.size + 1, 0, none⟩) 0 0) 0 (prs [])) := Lib.hid (by
    have := row_emptyP (w.alloc (.cells #[.slice a xs.length c] 32)) (w.heap.size + 1) (by simp)
    rw [e0] at this
    exact this)
  have HB0 := Lib.hid ((below_alloc w (.cells #[.slice a xs.length c] 32)).alloc (by simp) (Obj.cells #[] 79))
  have hc0 := keep_cell (w.alloc (.cells #[.slice a xs.length c] 32)) (Obj.cells #[] 79) (cell_new w (.slice a xs.length c) 32)
  have HE0 := Lib.hid (show ((w.alloc (.cells #[.slice a xs.length c] 32)).alloc (Obj.cells #[] 79)).heap.size = w.heap.size + 2 by simp)
  clear h e0
  cases hm : (marksR xs i).2 with
  | false =>
    have HL : Hid (spL xs i = []) := Lib.hid (if_neg (by rw [hm]; simp))
    rw [HL.out]
    rw [hm] at F
    clear hm
    go_enter Try.func49, Try.ntmps49
    go_wp2_with fail
    refine (F.out _ HB0.out).mono ?_
    rintro e w1 ⟨rfl, hb⟩
    have HB := Lib.hid (HB0.out.trans (hb.mono (by simp; omega)))
    clear hb hc0
    go_wp2
    go_ret2
    exact seqOut_nothing HB.out _ _
  | true =>
    obtain ⟨ht, hi0, hin, hx⟩ := marksR_yes hm
    obtain ⟨n, rfl⟩ : ∃ n : Nat, i = (n : Int) := ⟨i.toNat, by omega⟩
    have hy := joins_le100 (table_le ht).2
    have HL : Hid (spL xs n = spTo (joinsTo xs xs.length 0) n (joinsTo xs xs.length 0).length) := Lib.hid (by unfold spL; rw [if_pos hm, Int.toNat_natCast])
    rw [HL.out]
    rw [hm] at F
    have J : Hid (∀ W, Below w.heap.size w W → Calls Try.prog 98 #[.agg #[.slice a xs.length c]] W fun e w' => ∃ v, e = .returned v ∧ w'.ownsRow W.heap.size 76 3 v (joinsTo xs xs.length 0).length (trs (joinsTo xs xs.length 0)) ∧ Below W.heap.size W w') := Lib.hid fun W hb => sJoined_any a b o c xs W (HS.out.below (w' := W) hb) (marks5 ht) (table_le ht).2
    obtain ⟨i0, hi', hz0, hz1, hz2⟩ := info_parts infoPair
    clear hm hx HL ht
    generalize joinsTo xs xs.length 0 = ys at J hy ⊢
    go_enter Try.func49, Try.ntmps49
    go_wp2_with fail
    refine (F.out _ HB0.out).mono ?_
    rintro e w1 ⟨rfl, hb⟩
    have hc1 := cell_below hb hc0
    have HM1 := Lib.hid (row_below HM0.out hb)
    have HB1 := Lib.hid (HB0.out.trans (hb.mono (by simp; omega)))
    have HZ1 : Hid (w.heap.size + 2 ≤ w1.heap.size) := Lib.hid (by have := hb.size; rw [HE0.out] at this; exact this)
    clear hb hc0
    go_wp2_with fail
    refine (J.out _ HB1.out).mono ?_
    rintro e w3 ⟨v, rfl, hrow, hb⟩
    have HM3 := Lib.hid (row_below HM1.out hb)
    have HB3 := Lib.hid (HB1.out.trans (hb.mono HB1.out.size))
    have HZ3 : Hid (w.heap.size + 2 ≤ w3.heap.size) := Lib.hid (Nat.le_trans HZ1.out hb.size)
    obtain ⟨a1, g1, c1, rfl, hs1, hg1, _⟩ := seq_of_row hrow
    have HSr := Lib.hid hs1
    have HNe : Hid (0 < (trs ys).length → (Value.slice (some ⟨w.heap.size + 1, 0, none⟩) 0 0).ownBlock ≠ some g1) := Lib.hid fun h0 e => by
      have h1 := hg1 h0
      have e2 : w.heap.size + 1 = g1 := by simpa [Value.ownBlock] using e
      have := HZ1.out
      omega
    clear hb hc1 hs1 hrow hg1
    go_wp2
    go_loopw [6, 8] (fun pv v wr => ∃ k : Nat, v = .int .i64 k ∧ k ≤ ys.length ∧ wr.ownsRow (w.heap.size + 1) 79 2 pv (spTo ys n k).length (prs (spTo ys n k)) ∧ Hid (Below w.heap.size w wr) ∧ Hid (SrcV wr a1 g1 (trs ys)) ∧ Hid (0 < (trs ys).length → pv.ownBlock ≠ some g1) ∧ Hid (w.heap.size + 2 ≤ wr.heap.size)) (fun _ v _ => ys.length - (intOf v).toNat)
    case atStart => exact ⟨0, rfl, Nat.zero_le _, HM3.out, HB3, HSr, HNe, HZ3⟩
    case round =>
      obtain ⟨k, rfl, hk, hown, HB, HSk, HNk, HZ⟩ := hrel
      obtain ⟨av, capv, rfl⟩ := row_form hown
      by_cases hlt : k < ys.length
      · have hp0 : 0 < (trs ys).length := by rw [trs_len]; omega
        obtain rfl := HSk.out.1 hp0
        have HNg := Lib.hid (HNk.out hp0)
        have HGl : Hid (g1 < wr.heap.size) := Lib.hid (srcV_lt HSk.out hp0)
        have d1 := HSk.out.2 _ _ (trs_at hlt).1
        have d2 := HSk.out.2 _ _ (trs_at hlt).2.1
        have d3 := HSk.out.2 _ _ (trs_at hlt).2.2
        have e2 : k * 3 = 3 * k := Nat.mul_comm _ _
        rw [← e2] at d1 d2 d3
        clear e2
        have HSn := Lib.hid (spTo_succ (t := n) hlt)
        generalize ys[k].1 = p1 at d1 HSn
        generalize ys[k].2.1 = p2 at d2 HSn
        generalize ys[k].2.2 = p3 at d3 HSn
        have hpl : (spTo ys n k).length ≤ 100 := Nat.le_trans (spTo_le ys n k) hy
        have HOw := Lib.hid hown
        generalize spTo ys n k = ps at HOw HSn hpl HNg HNk
        clear hown
        have HLt : Hid (∀ q, (Value.slice av ps.length capv).ownBlock = some q → w.heap.size + 1 ≤ q) := Lib.hid fun q e => (ownBlock_ge HOw.out e).1
        have hszr := HZ.out
        have k1 : (0 : Int) ≤ (k : Int) := by omega
        have k2 : (k : Int) < (ys.length : Int) := by omega
        have q1 : ps.length + 1 ≤ maxLen := by unfold maxLen; omega
        have q2 : (ps.length + 1) * 16 ≤ 140737488355328 := by omega
        have q3 : w.heap.size + 1 ≤ wr.heap.size := by omega
        by_cases he : p3 = n
        · have HE : Hid (spTo ys n (k + 1) = ps ++ [(p1, p2)]) := Lib.hid (by rw [HSn.out, if_pos he])
          have t1 : ((p3 : Int) == (n : Int)) = true := by rw [he]; simp
          clear he HSn
          have hown3 := HOw.out
          go_wp2
          go_region_law
            (refine step_append_lies _ (by rfl) _ _ _ (by rfl) (w.heap.size + 1) 79 i0 _ 2 16 Try.underlying44 hi' hz0 hz1 hz2 rfl (by decide) (.slice av ps.length capv) ps.length (prs ps) (by rfl) ((hown3.alloc _).drew)
                ⟨wr.heap.size, 0, none⟩ 1 1 [.int .i64 (p1 : Int), .int .i64 (p2 : Int)] (by rfl) (by rfl) (World.news_of_block (cs := #[.int .i64 (p1 : Int), .int .i64 (p2 : Int)]) (t := 79) (fr := (0, 0)) (heap_alloc_new wr _)) (by simp [Value.oneCell'])
                (by decide) q1 q2 (Nat.le_trans q3 (below_alloc wr _).size) (wr.heap.size + 1) (by simp) ?_; intro gg capg w5 hown5 hgrow5 hat5 hglt5)
          all_goals (
            have HW5 : Hid (w5.ownsRow (w.heap.size + 1) 79 2 (.slice (some ⟨gg, 0, none⟩) (ps.length + 1) capg) (spTo ys n (k + 1)).length (prs (spTo ys n (k + 1)))) := Lib.hid (by rw [HE.out, prs_snoc]; simpa using hown5)
            have HB5 : Hid (Below w.heap.size w w5) := Lib.hid (by
              have h1 : Below w.heap.size w ((wr.alloc (.cells #[.int .i64 (p1 : Int), .int .i64 (p2 : Int)] 79)).drew) := (HB.out.alloc HB.out.size _).drew
              exact h1.grown hgrow5 h1.size (fun q e => by have := HLt.out q e; omega))
            have HS5 : Hid (SrcV w5 (some ⟨g1, 0, none⟩) g1 (trs ys)) := Lib.hid ⟨fun _ => rfl, fun j v hv => (World.cell?_of_block (w := (wr.alloc (.cells #[.int .i64 (p1 : Int), .int .i64 (p2 : Int)] 79)).drew) (a := ⟨g1, j, none⟩) (hgrow5.block g1 (by have := HGl.out; simp; omega) (fun e => HNg.out e.symm))).trans ((HSk.out.alloc (.cells #[.int .i64 (p1 : Int), .int .i64 (p2 : Int)] 79)).2 j v hv)⟩
            have HN5 : Hid (0 < (trs ys).length → (Value.slice (some ⟨gg, 0, none⟩) (ps.length + 1) capg).ownBlock ≠ some g1) := Lib.hid fun _ e => by
              have e2 : gg = g1 := by simpa [Value.ownBlock] using e
              rcases hat5 with h9 | h9
              · exact HNg.out (by rw [h9, e2])
              · have := HGl.out; omega
            have HZ5 : Hid (w.heap.size + 2 ≤ w5.heap.size) := Lib.hid (Nat.le_trans hszr (Nat.le_trans (by simp) hgrow5.size))
            clear hown5 hgrow5 hat5 hglt5 hown3
            go_wp2
            go_roundw
            case rel => exact ⟨k + 1, by go_num, by omega, HW5.out, HB5, HS5, HN5, HZ5⟩
            case measure => simp [intOf]; omega)
        · have HE : Hid (spTo ys n (k + 1) = ps) := Lib.hid (by rw [HSn.out, if_neg he, List.append_nil])
          have t1 : ((p3 : Int) == (n : Int)) = false := beq_false_of_ne (by omega)
          have HW5 : Hid (wr.ownsRow (w.heap.size + 1) 79 2 (.slice av ps.length capv) (spTo ys n (k + 1)).length (prs (spTo ys n (k + 1)))) := Lib.hid (by rw [HE.out]; exact HOw.out)
          clear he HSn
          go_wp2
          go_roundw
          case rel => exact ⟨k + 1, by go_num, by omega, HW5.out, HB, HSk, HNk, HZ⟩
          case measure => simp [intOf]; omega
      · obtain rfl : k = ys.length := by omega
        have HO3 := Lib.hid (row_mono hown (Nat.le_succ w.heap.size))
        clear hown
        go_wp2
        go_ret2
        exact seqOut_row HO3.out (Nat.le_refl _) HB.out
theorem splitLetters_both (xs : List ByteArray) (i : Int) (hl : xs.length ≤ 1048576) (ht : ∀ x ∈ xs, x.size ≤ 1048576) (_ : (Lit.int .i64 i).wf = true) : ∃ (l : List (Nat × Nat)) (R1 : Bool), l.length ≤ 1000 ∧
    Hid (∀ W a b o c, ListIn W a b o xs → Calls Try.prog 49 #[.agg #[.slice a xs.length c], .int .i64 i] W (SeqOut (prs l) l.length R1 W)) ∧
    Hid (∀ W a b o c, ListIn W a b o xs → Calls Try.prog 50 #[.agg #[.slice a xs.length c], .int .i64 i] W (SeqOut (prs l) l.length R1 W)) :=
  ⟨_, _, Nat.le_trans (spL_le xs i) (by omega), fun W a b o c h => sSplitLetters_any a b o c xs i W h, fun W a b o c h => splitLetters_any a b o c xs i W h⟩
end Go.Proofs.Ytgdiffdpjpkleaa
