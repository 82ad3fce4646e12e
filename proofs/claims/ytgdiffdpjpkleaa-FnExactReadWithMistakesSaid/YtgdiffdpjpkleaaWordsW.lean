/-
  Contracts of the model's l2Words, l2Signal, IsSignal. Used by the claims on chapter 2.
-/
import Derived.Test.YtgdiffdpjpkleaaTimeW
namespace Go.Proofs.Ytgdiffdpjpkleaa
open Go.RowKit
set_option linter.unusedVariables false

theorem infoSl : (Try.prog.info? 25).map (fun i => (i.zero, i.size, i.bytes)) = some (some (.slice none 0 0), 1, 24) := by kernel_rfl

theorem row_monoW {w : World} {base base' : Nat} {e : TypeId} {size : Nat} {v : Value} {n : Nat} {xs : List Value} (h : w.ownsRow base e size v n xs) (hb : base' ≤ base) : w.ownsRow base' e size v n xs := by
  refine ⟨h.1, ?_⟩
  rcases h.2 with h2 | ⟨g, cap, cur, a, b, c⟩
  · exact .inl h2
  · exact .inr ⟨g, cap, cur, a, Nat.le_trans hb b, c⟩
/-- Rows of different elements lie in different blocks. -/
theorem row_apart {w : World} {b1 b2 : Nat} {e1 e2 : TypeId} {s1 s2 : Nat} {v1 v2 : Value} {n1 n2 : Nat} {x1 x2 : List Value} (h1 : w.ownsRow b1 e1 s1 v1 n1 x1) (h2 : w.ownsRow b2 e2 s2 v2 n2 x2) (hne : e1 ≠ e2) : v1.ownBlock = none ∨ v1.ownBlock ≠ v2.ownBlock := by
  rcases h1.2 with ⟨rfl, _⟩ | ⟨g, cap, cur, rfl, hg, hh, _⟩
  · left; simp [Value.ownBlock]
  · rcases h2.2 with ⟨rfl, _⟩ | ⟨g2, cap2, cur2, rfl, hg2, hh2, _⟩
    · right; simp [Value.ownBlock]
    · right
      intro e
      simp [Value.ownBlock] at e
      subst e
      rw [hh] at hh2
      have := Option.some.inj hh2
      injection this with _ h3 _
      exact hne h3
theorem row_srcW {w : World} {base : Nat} {v : Value} {ys : List ByteArray} (h : w.ownsRow base 9 1 v ys.length (ys.map Value.string)) (h0 : 0 < ys.length) : ∃ g cap, v = .slice (some ⟨g, 0, none⟩) ys.length cap ∧ Src w (some ⟨g, 0, none⟩) g 0 ys := by
  have h' := h
  rcases h.2 with ⟨_, h1⟩ | ⟨g, cap, cur, rfl, hg, hh, _⟩
  · omega
  · refine ⟨g, cap, rfl, ⟨fun _ => rfl, fun j x hx => ?_⟩⟩
    have := h'.cells (g := g) rfl j (.string x) (by simp [hx])
    rw [Addr.add_lit] at this
    exact this

/-- The words' own rows. -/
def WordsAt (W : World) (base : Nat) (vs : List Value) (ws : List (List ByteArray)) : Prop := vs.length = ws.length ∧ ∀ (i : Nat) (ys : List ByteArray), ws[i]? = some ys → ∃ v, vs[i]? = some v ∧ W.ownsRow base 9 1 v ys.length (ys.map Value.string)
theorem WordsAt.below {W W' : World} {base : Nat} {vs : List Value} {ws : List (List ByteArray)} (h : WordsAt W base vs ws) (hb : Below W.heap.size W W') : WordsAt W' base vs ws := ⟨h.1, fun i ys hy => by
  obtain ⟨v, h1, h2⟩ := h.2 i ys hy
  exact ⟨v, h1, row_below h2 hb⟩⟩
theorem WordsAt.kept {W W' : World} {o : Obj} {base b2 : Nat} {vs : List Value} {ws : List (List ByteArray)} {v2 : Value} {n2 : Nat} {x2 : List Value} (h : WordsAt W base vs ws) (hr : W.ownsRow b2 25 1 v2 n2 x2) (hg : (W.alloc o).grownBy W' v2.ownBlock) : WordsAt W' base vs ws := ⟨h.1, fun i ys hy => by
  obtain ⟨v, h1, h3⟩ := h.2 i ys hy
  exact ⟨v, h1, (h3.alloc o).kept hg (row_apart h3 hr (by decide))⟩⟩
theorem WordsAt.snoc {W : World} {base : Nat} {vs : List Value} {ws : List (List ByteArray)} {v : Value} {ys : List ByteArray} (h : WordsAt W base vs ws) (hr : W.ownsRow base 9 1 v ys.length (ys.map Value.string)) : WordsAt W base (vs ++ [v]) (ws ++ [ys]) := by
  refine ⟨by simp [h.1], fun i zs hz => ?_⟩
  by_cases hi : i < ws.length
  · rw [List.getElem?_append_left hi] at hz
    obtain ⟨u, h1, h2⟩ := h.2 i zs hz
    exact ⟨u, by rw [List.getElem?_append_left (by rw [h.1]; exact hi)]; exact h1, h2⟩
  · rw [List.getElem?_append_right (by omega)] at hz
    have hi0 : i = ws.length := by
      have := (List.getElem?_eq_some_iff.1 hz).1
      simp at this; omega
    subst hi0
    simp at hz
    subst hz
    exact ⟨v, by rw [← h.1]; simp, hr⟩

def wordsB (s : ByteArray) : List (List ByteArray) := (splitS s 47).map (fun x => splitS x 32)
theorem wordsB_L (s : ByteArray) : (wordsB s).map (fun w => w.map bl) = wordsL (bl s) := by
  unfold wordsB wordsL
  rw [List.map_map, ← splitS_L, List.map_map]
  exact List.map_congr_left fun x _ => splitS_L x 32
theorem wordsB_len (s : ByteArray) : (wordsB s).length = (splitS s 47).length := by simp [wordsB]

set_option maxHeartbeats 2000000 in
set_option maxRecDepth 4000 in
theorem words_any (s : ByteArray) (w : World) (hs : s.size ≤ 72) :
    Calls Try.prog 95 #[.string s] w fun e w' => ∃ v vs, e = .returned v ∧ w'.ownsRow w.heap.size 25 1 v (wordsB s).length vs ∧ WordsAt w' w.heap.size vs (wordsB s) ∧ Below w.heap.size w w' := by
  obtain ⟨i0, hi, hz0, hz1, hz2⟩ := info_parts infoSl
  have hm0 : (w.alloc (Obj.cells #[] 25)).ownsRow w.heap.size 25 1 (.slice (some ⟨w.heap.size, 0, none⟩) 0 0) 0 [] := World.ownsRow_made w #[] 0 (Nat.le_refl _) (by unfold maxLen; omega) rfl
  have M0 := Lib.hid hm0
  clear hm0
  have G := Lib.hid fun w => l1Split_any s 47 w (by omega)
  obtain ⟨ps, hps⟩ : ∃ ps, ps = splitS s 47 := ⟨_, rfl⟩
  have hpl := splitS_len s 47
  have HPs := Lib.hid hps
  have HSz : Hid (∀ x ∈ ps, x.size ≤ 72) := Lib.hid (fun x hx => by
    rw [hps] at hx
    have h1 := len_split 47 (bl s)
    rw [← splitS_L, bl_len] at h1
    have h2 : ∀ xs : List ByteArray, x ∈ xs → x.size + 1 ≤ ((xs.map bl).map (fun y => y.length + 1)).sum := by
      intro xs
      induction xs with
      | nil => intro h; cases h
      | cons y r ih =>
        intro h
        simp only [List.map_cons, List.sum_cons]
        rcases List.mem_cons.1 h with rfl | h
        · rw [bl_len]; omega
        · have := ih h; omega
    have := h2 _ hx
    omega)
  have HWl : Hid (wordsB s = ps.map (fun x => splitS x 32)) := Lib.hid (by unfold wordsB; rw [hps])
  rw [← hps] at hpl
  clear hps
  go_enter Try.func95, Try.ntmps95
  go_wp2_with fail
  refine (G.out _).mono ?_
  rintro e w1 ⟨v4, rfl, hown, hb⟩
  rw [← HPs.out] at hown
  have HB1 := Lib.hid ((below_alloc w (.cells #[] 25)).trans (hb.mono (by simp)))
  have HO1 := Lib.hid (row_below M0.out hb)
  obtain ⟨g4, cap4, rfl, hsrc⟩ := row_srcW hown (by omega)
  have HR1 := Lib.hid hown
  clear hb hown hsrc
  go_wp2
  go_loopw [3, 5] (fun vo v wr => ∃ (k : Nat) (vs : List Value), v = .int .i64 k ∧ k ≤ ps.length ∧ vs.length = k ∧ wr.ownsRow w.heap.size 25 1 vo vs.length vs ∧ Hid (WordsAt wr w.heap.size vs ((ps.take k).map (fun x => splitS x 32))) ∧ Hid (wr.ownsRow (w.alloc (.cells #[] 25)).heap.size 9 1 (.slice (some ⟨g4, 0, none⟩) ps.length cap4) ps.length (ps.map Value.string)) ∧ Below w.heap.size w wr) (fun _ v _ => ps.length - (intOf v).toNat)
  case atStart => exact ⟨0, [], rfl, Nat.zero_le _, rfl, HO1.out, Lib.hid ⟨by simp, fun i ys hy => by simp at hy⟩, HR1, HB1.out⟩
  case round =>
    obtain ⟨k, vs, rfl, hk, hvl, hown, HW, HR, hB⟩ := hrel
    by_cases hlt : k < ps.length
    · obtain ⟨_, _, hve, hsrc⟩ := row_srcW HR.out (by omega)
      have hcell : wr.cell? ⟨g4, k, none⟩ = some (.string ps[k]) := by
        have := hsrc.2 k _ (List.getElem?_eq_getElem hlt)
        injection hve with hve1 _ _
        injection hve1 with hve2
        injection hve2 with hve3 _ _
        rw [← hve3, Nat.zero_add] at this
        exact this
      have hxs := HSz.out _ (List.getElem_mem hlt)
      have HX : Hid ((ps.take (k + 1)).map (fun x => splitS x 32) = (ps.take k).map (fun x => splitS x 32) ++ [splitS ps[k] 32]) := Lib.hid (by
        rw [List.take_add_one, List.getElem?_eq_getElem hlt, List.map_append]; rfl)
      generalize ps[k] = x at hcell hxs HX
      have G2 := Lib.hid fun w => l1Split_any x 32 w (by omega)
      have hxl := splitS_len x 32
      have HxL := Lib.hid hxl
      have j0 : (0 : Int) ≤ (k : Int) := by omega
      have j1 : (k : Int) < (ps.length : Int) := by omega
      clear hsrc hve hxl
      go_wp2_with fail
      refine (G2.out _).mono ?_
      rintro e w2 ⟨v6, rfl, hown6, hb⟩
      obtain ⟨g6, cap6, rfl, _⟩ := row_srcW hown6 HxL.out.1
      have hown2 := row_below hown hb
      have hB2 : Below w.heap.size w w2 := hB.trans (hb.mono hB.size)
      have H2 := Lib.hid (And.intro (HW.out.below hb) (And.intro (row_below HR.out hb) (row_monoW hown6 hB.size)))
      obtain ⟨n6, hn6⟩ : ∃ n, n = (splitS x 32).length := ⟨_, rfl⟩
      have HN6 := Lib.hid hn6
      rw [← hn6] at H2 ⊢
      clear hb hown6 hcell hown hn6
      go_wp2_with (at_builtin; refine wpList_append_own _ rfl _ _ 99 rfl w.heap.size 25 i0 (.slice none 0 0) 1 24 Try.underlying99 hi hz0 hz1 hz2 rfl (by decide) _ _ _ rfl (hown2.alloc _) ⟨w2.heap.size, 0, none⟩ 1 1 [.slice (some ⟨g6, 0, none⟩) n6 cap6] rfl rfl (cell_one_new _ _ _) (by simp [Value.oneCell']) (by unfold maxLen; omega) (by omega) (by have := hB2.size; simp; omega) ?_; intro v' w3 hown' hgrow _)
      have HW3 : Hid (w3.ownsRow w.heap.size 25 1 v' (vs ++ [Value.slice (some ⟨g6, 0, none⟩) n6 cap6]).length (vs ++ [Value.slice (some ⟨g6, 0, none⟩) n6 cap6])) := Lib.hid (by simpa using hown')
      have HB3 := Lib.hid ((hB2.alloc hB2.size _).grown hgrow (by have := hB2.size; simp; omega) (fun j e => (hown2.lt j e).1))
      have HA3 : Hid (WordsAt w3 w.heap.size (vs ++ [Value.slice (some ⟨g6, 0, none⟩) n6 cap6]) ((ps.take (k + 1)).map (fun x => splitS x 32))) := Lib.hid (by
        show WordsAt _ _ _ _
        rw [HX.out]
        refine (H2.out.1.kept hown2 hgrow).snoc ?_
        have h6 := H2.out.2.2
        rw [HN6.out] at h6 hgrow ⊢
        exact (h6.alloc _).kept hgrow (row_apart h6 hown2 (by decide)))
      have HR3 := Lib.hid ((H2.out.2.1.alloc _).kept hgrow (row_apart H2.out.2.1 hown2 (by decide)))
      clear hown' hgrow hown2 hB2
      all_goals (
        go_roundw
        case rel => exact ⟨k + 1, _, by go_num, by omega, by simp; omega, HW3.out, HA3, HR3, HB3.out⟩
        case measure => simp [intOf]; omega)
    · have HE : Hid (WordsAt wr w.heap.size vs (wordsB s)) := Lib.hid (by
        have := HW.out
        rw [List.take_of_length_le (by omega)] at this
        rw [HWl.out]; exact this)
      have HL : Hid (vs.length = (wordsB s).length) := Lib.hid HE.out.1
      go_wp2
      go_ret
      exact ⟨_, vs, rfl, by rw [← HL.out]; exact hown, HE.out, hB⟩
end Go.Proofs.Ytgdiffdpjpkleaa
