/-
  BackTrace, the program's and the model's. Used by the claim on BackTrace.
-/
import Derived.Test.YtgfmcpipbmnagaaFilS
import Derived.Test.YtgfmcpipbmnagaaShelf
import Derived.Laws.IdiomCopy
namespace Go.Proofs.Ytgfmcpipbmnagaa
open Go.RowKit
set_option linter.unusedVariables false

theorem sBackTrace_no1 (a : Option Addr) (g c : Nat) (l : List Int) (w : World) (hs : SrcV w a g (intz l)) (hl : l.length ≤ 1048576) (h0 : traceZ l = false) :
    Calls Try.prog 37 #[.slice a l.length c] w (SeqOut (ints []) ([] : List Nat).length false w) := by
  have F0 := sTrace_f l false h0 hl
  have HS := Lib.hid hs
  clear hs h0
  go_enter Try.func37, Try.ntmps37
  go_wp2_with fail
  refine (F0.out _ _ _ _ (HS.out.below (by first | exact Below.refl _ _ | exact below_alloc _ _))).mono ?_
  rintro e w1 ⟨rfl, hb⟩
  have HB : Hid (Below w.heap.size w w1) := Lib.hid (by first | exact hb | exact (below_alloc w _).trans (hb.mono (below_alloc w _).size))
  clear hb
  go_wp2
  (first | go_ret | go_ret2)
  exact seq_no _ _ (by first | exact HB.out | exact HB.out.alloc HB.out.size _)
theorem backTrace_no1 (a : Option Addr) (g c : Nat) (l : List Int) (w : World) (hs : SrcV w a g (intz l)) (hl : l.length ≤ 1048576) (h0 : traceZ l = false) :
    Calls Try.prog 38 #[.slice a l.length c] w (SeqOut (ints []) ([] : List Nat).length false w) := by
  have F0 := isTrace_f l false h0 hl
  have HS := Lib.hid hs
  clear hs h0
  go_enter Try.func38, Try.ntmps38
  go_wp2_with fail
  refine (F0.out _ _ _ _ (HS.out.below (by first | exact Below.refl _ _ | exact below_alloc _ _))).mono ?_
  rintro e w1 ⟨rfl, hb⟩
  have HB : Hid (Below w.heap.size w w1) := Lib.hid (by first | exact hb | exact (below_alloc w _).trans (hb.mono (below_alloc w _).size))
  clear hb
  go_wp2
  (first | go_ret | go_ret2)
  exact seq_no _ _ (by first | exact HB.out | exact HB.out.alloc HB.out.size _)
theorem app_facts0 (n : Nat) (h : n ≤ 1048576) : n + 1 ≤ maxLen ∧ (n + 1) * 8 ≤ 140737488355328 ∧ n + 2 ≤ maxLen ∧ (n + 2) * 8 ≤ 140737488355328 := by
  unfold maxLen; omega
theorem row_mono2 {w : World} {base base' : Nat} {e : TypeId} {size : Nat} {v : Value} {n : Nat} {xs : List Value} (h : w.ownsRow base e size v n xs) (hb : base' ≤ base) : w.ownsRow base' e size v n xs := by
  obtain ⟨h1, h2⟩ := h
  rcases h2 with h2 | ⟨g, cap, cur, e1, hg, rest⟩
  · exact ⟨h1, .inl h2⟩
  · exact ⟨h1, .inr ⟨g, cap, cur, e1, Nat.le_trans hb hg, rest⟩⟩
theorem rev_next (m : List Nat) (q : Nat) (h : q < m.length) : (m.drop q).reverse = (m.drop (q + 1)).reverse ++ [m[q]] := by
  rw [List.drop_eq_getElem_cons h, List.reverse_cons]
theorem below_cells {B b : Nat} (hb : B ≤ b) : ∀ (vs : List Value) (o : Nat) {a w : World}, Below B a w → Below B a (w.setCells b o vs)
  | [], _, _, _, h => h
  | v :: r, o, _, _, h => below_cells hb r (o + 1) (h.setCell (p := ⟨b, o, none⟩) hb v)
/-- How a function ends that answers with a list of its own. -/
theorem seq_yes {l : List Nat} {W W' : World} {a : Option Addr} {g c : Nat} (hs : SrcV W' a g (ints l)) (hg : 0 < (ints l).length → W.heap.size ≤ g) (ho : ∀ j, j < (ints l).length → W'.frozen? ⟨g, j, none⟩ = false) (hb : Below W.heap.size W W') :
    SeqOut (ints l) l.length true W (.returned (.tuple #[.slice a l.length c, .bool true])) W' := ⟨a, g, c, rfl, hs, hg, ho, hb⟩
set_option maxHeartbeats 4000000 in
set_option maxRecDepth 8000 in
theorem sBackTrace_yes (a : Option Addr) (g c : Nat) (m : List Nat) (w : World) (hs : SrcV w a g (ints m)) (hm : IsTr m) :
    Calls Try.prog 37 #[.slice a m.length c] w (SeqOut (ints m.reverse) m.reverse.length true w) := by
  obtain ⟨i0, hi, hz0, hz1, hz2⟩ := info_parts infoIntI
  have F := sTrace_m m hm
  have HM := Lib.hid hm
  have hl := hm.len
  have hodd := hm.odd
  have HS := Lib.hid fun W hb => hs.below (w' := W) hb
  have n1 : 0 < m.length := by omega
  obtain rfl := hs.1 (by rw [ints_len]; omega)
  clear hs hm hodd
  have M0 : Hid ((w.alloc (Obj.cells #[] 3)).ownsRow w.heap.size 3 1 (.slice (some ⟨w.heap.size, 0, none⟩) 0 0) 0 (ints [])) := Lib.hid (World.ownsRow_made (base := w.heap.size) w #[] 0 (Nat.le_refl _) (by unfold maxLen; omega) rfl)
  go_enter Try.func37, Try.ntmps37
  go_wp2_with fail
  refine (F.out _ _ _ _ (HS.out _ (below_alloc _ _))).mono ?_
  rintro e w1 ⟨rfl, hb⟩
  have HB : Hid (Below w.heap.size w w1) := Lib.hid ((below_alloc w _).trans (hb.mono (below_alloc w _).size))
  have M1 := Lib.hid (row_below M0.out hb)
  clear hb
  have y1 : wrap64 ((m.length : Int) - 1) = (m.length : Int) - 1 := IntWalk.wrap64_in _ (by omega)
  go_wp2
  clear y1
  go_loopw [4, 5] (fun pv v wr => ∃ k : Nat, v = .int .i64 ((k : Int) - 1) ∧ k ≤ m.length ∧ wr.ownsRow w.heap.size 3 1 pv (m.drop k).reverse.length (ints (m.drop k).reverse) ∧ Hid (Below w.heap.size w wr)) (fun _ v _ => (intOf v + 1).toNat)
  case atStart => exact ⟨m.length, rfl, Nat.le_refl _, by rw [List.drop_length]; exact M1.out, HB⟩
  case round =>
    obtain ⟨k, rfl, hk, hown, HB3⟩ := hrel
    obtain ⟨av, capv, rfl⟩ := row_form hown
    cases k with
    | zero =>
      have e0 : ((0 : Nat) : Int) - 1 = -1 := rfl
      rw [e0]
      have HR : Hid ((m.drop 0).reverse = m.reverse) := Lib.hid rfl
      rw [HR.out] at hown ⊢
      obtain ⟨a', g', c', hv, hs', hg', ho'⟩ := seq_of_row hown
      injection hv with hv1 hv2 hv3
      subst hv1 hv3
      have HSq := Lib.hid (And.intro hs' (And.intro hg' ho'))
      clear hs' hg' ho' hown
      go_wp2
      (first | go_ret | go_ret2)
      have HRl : Hid (m.reverse.length = m.length) := Lib.hid (by simp)
      have := seq_yes (W := w) (c := capv) HSq.out.1 HSq.out.2.1 HSq.out.2.2 HB3.out
      rw [HRl.out] at this
      exact this
    | succ q =>
      have e0 : ((q + 1 : Nat) : Int) - 1 = (q : Int) := by omega
      rw [e0]
      have hlt : q < m.length := by omega
      have d1 := (HS.out wr HB3.out).2 q _ (ints_at hlt)
      have HN := Lib.hid (rev_next m q hlt)
      have HLn : Hid ((m.drop (q + 1)).reverse.length = m.length - (q + 1)) := Lib.hid (by simp)
      generalize m[q] = x at d1 HN
      have k0 : (0 : Int) ≤ (q : Int) := by omega
      have k1 : (q : Int) < (m.length : Int) := by omega
      have HL : Hid (∀ q', (Value.slice av (m.drop (q + 1)).reverse.length capv).ownBlock = some q' → w.heap.size ≤ q' ∧ q' < wr.heap.size) := Lib.hid hown.lt
      generalize (m.drop (q + 1)).reverse = r at hown HN HL HLn
      have hr9 : r.length ≤ 143 := by have := HLn.out; omega
      obtain ⟨a1, a2, a3, a4⟩ := app_facts0 r.length (by omega)
      have hsz := HB3.out.size
      have HR1 : Hid ((r ++ [x]).length = r.length + 1) := Lib.hid (by simp)
      generalize hrl : r.length = n at *
      clear hrl
      go_wp2_with (at_builtin; refine wpList_append_own _ rfl _ _ 22 rfl w.heap.size 3 i0 (.int .i64 0) 1 8 Try.underlying22 hi hz0 hz1 hz2 rfl (by decide) _ _ _ rfl (hown.alloc _) ⟨wr.heap.size, 0, none⟩ 1 1 [.int .i64 (x : Int)] rfl rfl (cell_one_new _ _ _) (by simp [Value.oneCell']) a1 a2 (Nat.le_trans hsz (below_alloc wr _).size) ?_; intro v' w7 hown' hgrow _)
      have HW7 : Hid (w7.ownsRow w.heap.size 3 1 v' (m.drop q).reverse.length (ints (m.drop q).reverse)) := Lib.hid (by rw [HN.out, HR1.out, ints_snoc]; exact hown')
      have HB7 : Hid (Below w.heap.size w w7) := Lib.hid ((HB3.out.alloc HB3.out.size _).grown hgrow (Nat.le_trans HB3.out.size (below_alloc wr _).size) (fun q e => (HL.out q e).1))
      clear hown' hgrow hown a1 a2 a3 a4 hsz
      go_wp2
      go_roundw
      case rel => exact ⟨q, rfl, by omega, HW7.out, HB7⟩
      case measure => simp [intOf]
set_option maxHeartbeats 4000000 in
theorem backTrace_yes (a : Option Addr) (g c : Nat) (m : List Nat) (w : World) (hs : SrcV w a g (ints m)) (hm : IsTr m) :
    Calls Try.prog 38 #[.slice a m.length c] w (SeqOut (ints m.reverse) m.reverse.length true w) := by
  have F := isTrace_m m hm
  have HM := Lib.hid hm
  have hl := hm.len
  have hodd := hm.odd
  have HS := Lib.hid fun W hb => hs.below (w' := W) hb
  obtain rfl := hs.1 (by rw [ints_len]; omega)
  have C := Lib.hid fun W (h : SrcV W (some ⟨g, 0, none⟩) g (ints m)) => Try.slices_Clone_int g 0 m.length c (zs m) W (by rw [zs_len]; exact Nat.le_refl _) (by omega) (fun j hj => by
    rw [zs_len] at hj
    rw [Nat.zero_add, h.2 j _ (ints_at hj), List.getD_eq_getElem?_getD, List.getElem?_eq_getElem (by rw [zs_len]; exact hj), zs_at hj]
    rfl)
  have HT : Hid (((zs m).take m.length).map (Value.int .i64) = ints m) := Lib.hid (by
    rw [List.take_of_length_le (by rw [zs_len]; exact Nat.le_refl _), ← zs_ints]; rfl)
  have HRv : Hid (((zs m).take m.length).reverse.map (Value.int .i64) = ints m.reverse) := Lib.hid (by
    rw [List.take_of_length_le (by rw [zs_len]; exact Nat.le_refl _), ← zs_ints]
    simp [intz, zs])
  have HRl : Hid (m.reverse.length = m.length) := Lib.hid (by simp)
  have n1 : 0 < m.length := by omega
  clear hs hm
  go_enter Try.func38, Try.ntmps38
  go_wp2_with fail
  refine (F.out _ _ _ _ (HS.out _ (Below.refl _ _))).mono ?_
  rintro e w1 ⟨rfl, hb⟩
  have HB := Lib.hid hb
  clear hb
  go_wp2_with fail
  refine (C.out _ (HS.out _ HB.out)).mono ?_
  rintro e w2 ⟨v2, rfl, hrow, hn2, hb⟩
  rw [HT.out] at hrow
  have HB2 := Lib.hid (HB.out.trans (hb.mono HB.out.size))
  have hrow2 := row_mono2 hrow HB.out.size
  obtain ⟨g2, c2, rfl, hs2, hg2, ho2, hlc2⟩ := seq_of_row2 hrow2 hn2
  have R := Lib.hid (Try.slices_Reverse_int_cells g2 0 m.length c2 (zs m) w2 (by rw [zs_len]; exact Nat.le_refl _) (by omega) (fun j hj => by
    rw [zs_len] at hj
    rw [Nat.zero_add, hs2.2 j _ (ints_at hj), List.getD_eq_getElem?_getD, List.getElem?_eq_getElem (by rw [zs_len]; exact hj), zs_at hj]
    rfl) (fun j hj => by rw [Nat.zero_add]; exact ho2 j (by rw [ints_len]; exact hj)))
  have HS2 := Lib.hid (And.intro hs2 (And.intro hg2 ho2))
  clear hrow hrow2 hn2 hs2 hg2 ho2 hb
  go_wp2_with fail
  refine R.out.mono ?_
  rintro e w3 ⟨rfl, q, rfl⟩
  rw [HRv.out]
  have HB3 : Hid (Below w.heap.size w ((w2.drewN q).setCells g2 0 (ints m.reverse))) := Lib.hid (below_cells HS2.out.2.1 _ _ (HB2.out.trans ⟨rfl, rfl, rfl, Nat.le_refl _, fun _ _ => rfl⟩))
  have HS3 : Hid (SrcV ((w2.drewN q).setCells g2 0 (ints m.reverse)) (some ⟨g2, 0, none⟩) g2 (ints m.reverse)) := Lib.hid ⟨fun _ => rfl, fun j v hv => by
    obtain ⟨hj, e⟩ := List.getElem?_eq_some_iff.1 hv
    have := World.cell?_setCells_in g2 (ints m.reverse) 0 (w2.drewN q) (fun j hj => by
      rw [ints_len, HRl.out] at hj
      rw [Nat.zero_add]
      have := HS2.out.1.2 j _ (ints_at hj)
      show ((w2.drewN q).cell? ⟨g2, j, none⟩).isSome = true
      have e2 : (w2.drewN q).cell? ⟨g2, j, none⟩ = w2.cell? ⟨g2, j, none⟩ := rfl
      rw [e2, this]; rfl) j hj
    rw [Nat.zero_add] at this
    rw [this, e]⟩
  have HO3 : Hid (∀ j, j < (ints m.reverse).length → ((w2.drewN q).setCells g2 0 (ints m.reverse)).frozen? ⟨g2, j, none⟩ = false) := Lib.hid fun j hj => by
    rw [World.frozen?_setCells]
    rw [ints_len, HRl.out] at hj
    exact HS2.out.2.2 j (by rw [ints_len]; exact hj)
  have HG3 : Hid (w.heap.size ≤ g2) := Lib.hid HS2.out.2.1
  generalize (w2.drewN q).setCells g2 0 (ints m.reverse) = W3 at *
  go_wp2
  (first | go_ret | go_ret2)
  have := seq_yes (W := w) (c := c2) HS3.out (fun _ => HG3.out) HO3.out HB3.out
  rw [HRl.out] at this ⊢
  exact this
theorem backTrace_both (l0 : List Int) (hl : l0.length ≤ 1048576) (hi : InI l0) : ∃ (l : List Nat) (R1 : Bool), l.length ≤ 1048576 ∧
    Hid (∀ W a g c, SrcV W a g (intz l0) → Calls Try.prog 37 #[.slice a l0.length c] W (SeqOut (ints l) l.length R1 W)) ∧
    Hid (∀ W a g c, SrcV W a g (intz l0) → Calls Try.prog 38 #[.slice a l0.length c] W (SeqOut (ints l) l.length R1 W)) := by
  cases h : traceZ l0
  · exact ⟨[], false, by simp, fun W a g c hs => sBackTrace_no1 a g c l0 W hs hl h, fun W a g c hs => backTrace_no1 a g c l0 W hs hl h⟩
  · obtain ⟨m, rfl, hm⟩ := traceZ_nat h
    rw [zs_len, zs_ints]
    exact ⟨m.reverse, true, by have := hm.len; simp; omega, fun W a g c hs => sBackTrace_yes a g c m W hs hm, fun W a g c hs => backTrace_yes a g c m W hs hm⟩
end Go.Proofs.Ytgfmcpipbmnagaa
