/-
  DepthOf, BestAsk of the model; both answer alike. Used by the claims on chapter 11.
-/
import Derived.Test.YthkafalpjokfeaaAfW
import Derived.Test.YthkafalpjokfeaaLtS
import Derived.Test.YthkafalpjokfeaaDpS
namespace Go.Proofs.Ythkafalpjokfeaa
open Go.RowKit
set_option linter.unusedVariables false

set_option maxHeartbeats 2000000 in
theorem sDepthOf_any (a : Option Addr) (b o c : Nat) (xs : List ByteArray) (a1 : Option Addr) (g1 c1 : Nat) (l : List Int) (w : World) (h : ListIn w a b o xs) (hs : SrcV w a1 g1 (intz l)) (hl : l.length ≤ 1048576) :
    Calls Try.prog 41 #[.agg #[.slice a xs.length c], .slice a1 l.length c1] w fun e w' => e = .returned (.tuple #[.int .i64 (dpZ xs l), .bool (lttB xs l)]) ∧ Below w.heap.size w w' := by
  have F := Lib.hid fun W hb => stable_any a b o c xs W (h.below (w' := W) hb)
  have G := Lib.hid fun (hn : xs.length ≤ 10) W hb => sLt_any a b o c xs a1 g1 c1 l W hn (hs.below (w' := W) hb) hl
  have hc0 := cell_new w (.slice a xs.length c) 29
  have HB0 := Lib.hid (below_alloc w (.cells #[.slice a xs.length c] 29))
  cases ht : tableB xs with
  | false =>
    have HO : Hid (lttB xs l = false) := Lib.hid (by unfold lttB; rw [ht]; rfl)
    have HZ : Hid (dpZ xs l = 0) := Lib.hid (if_neg (by rw [HO.out]; simp))
    rw [HO.out, HZ.out]
    rw [ht] at F
    clear h hs ht HZ HO G
    go_enter Try.func41, Try.ntmps41
    go_wp2_with fail
    refine (F.out _ HB0.out).mono ?_
    rintro e w1 ⟨rfl, hb⟩
    have HB1 := Lib.hid (HB0.out.trans (hb.mono HB0.out.size))
    clear hb hc0
    go_wp2
    go_ret2
    exact ⟨rfl, HB1.out⟩
  | true =>
    rw [ht] at F
    have G2 := Lib.hid (G.out ((tableB_iff xs).1 ht).1.2)
    cases hq : ltB xs.length l with
    | false =>
      have HO : Hid (lttB xs l = false) := Lib.hid (by unfold lttB; rw [ht, hq]; rfl)
      have HZ : Hid (dpZ xs l = 0) := Lib.hid (if_neg (by rw [HO.out]; simp))
      rw [HO.out, HZ.out]
      rw [hq] at G2
      clear h hs ht hq HZ HO G
      go_enter Try.func41, Try.ntmps41
      go_wp2_with fail
      refine (F.out _ HB0.out).mono ?_
      rintro e w1 ⟨rfl, hb⟩
      have HB1 := Lib.hid (HB0.out.trans (hb.mono HB0.out.size))
      have hc1 := cell_belowB hb hc0
      clear hb hc0
      go_wp2_with fail
      refine (G2.out _ HB1.out).mono ?_
      rintro e w2 ⟨rfl, hb⟩
      have HB2 := Lib.hid (HB1.out.trans (hb.mono HB1.out.size))
      clear hb hc1
      go_wp2
      go_ret2
      exact ⟨rfl, HB2.out⟩
    | true =>
      have hlt : lttB xs l = true := by unfold lttB; rw [ht, hq]; rfl
      rw [hq] at G2
      have HO : Hid (lttB xs l = true) := Lib.hid (hlt)
      have HZ : Hid (dpZ xs l = ((dep xs (l.map Int.toNat) : Nat) : Int)) := Lib.hid (if_pos HO.out)
      rw [HO.out, HZ.out]
      obtain ⟨m, rfl, hm⟩ := lt_of hlt
      rw [map_zs, zs_len] at *
      rw [zs_ints] at hs
      have HD := Lib.hid fun W hb => sDepth_any a b o c xs m.length m (Nat.le_refl _) hm a1 g1 c1 W (h.below (w' := W) hb) (hs.below hb)
      clear h hs ht hq hlt HZ HO hm G
      generalize dep xs m = d at HD ⊢
      generalize fstZ xs m = fz at HD
      go_enter Try.func41, Try.ntmps41
      go_wp2_with fail
      refine (F.out _ HB0.out).mono ?_
      rintro e w1 ⟨rfl, hb⟩
      have HB1 := Lib.hid (HB0.out.trans (hb.mono HB0.out.size))
      have hc1 := cell_belowB hb hc0
      clear hb hc0
      go_wp2_with fail
      refine (G2.out _ HB1.out).mono ?_
      rintro e w2 ⟨rfl, hb⟩
      have HB2 := Lib.hid (HB1.out.trans (hb.mono HB1.out.size))
      have hc2 := cell_belowB hb hc1
      clear hb hc1
      go_wp2_with fail
      refine (HD.out w2 HB2.out).mono ?_
      rintro e w3 ⟨rfl, hb⟩
      have HB3 := Lib.hid (HB2.out.trans (hb.mono HB2.out.size))
      clear hb
      go_wp2
      go_ret2
      exact ⟨rfl, HB3.out⟩
set_option maxHeartbeats 2000000 in
theorem sBestAsk_any (a : Option Addr) (b o c : Nat) (xs : List ByteArray) (a1 : Option Addr) (g1 c1 : Nat) (l : List Int) (w : World) (h : ListIn w a b o xs) (hs : SrcV w a1 g1 (intz l)) (hl : l.length ≤ 1048576) :
    Calls Try.prog 43 #[.agg #[.slice a xs.length c], .slice a1 l.length c1] w fun e w' => e = .returned (.tuple #[.int .i64 (baZ xs l), .bool (baOk xs l)]) ∧ Below w.heap.size w w' := by
  have F := Lib.hid fun W hb => stable_any a b o c xs W (h.below (w' := W) hb)
  have G := Lib.hid fun (hn : xs.length ≤ 10) W hb => sLt_any a b o c xs a1 g1 c1 l W hn (hs.below (w' := W) hb) hl
  have hc0 := cell_new w (.slice a xs.length c) 29
  have HB0 := Lib.hid (below_alloc w (.cells #[.slice a xs.length c] 29))
  cases ht : tableB xs with
  | false =>
    have HO : Hid (baOk xs l = false) := Lib.hid (by unfold baOk; unfold lttB; rw [ht]; rfl)
    have HZ : Hid (baZ xs l = 0) := Lib.hid (if_neg (by rw [HO.out]; simp))
    rw [HO.out, HZ.out]
    rw [ht] at F
    clear h hs ht HZ HO G
    go_enter Try.func43, Try.ntmps43
    go_wp2_with fail
    refine (F.out _ HB0.out).mono ?_
    rintro e w1 ⟨rfl, hb⟩
    have HB1 := Lib.hid (HB0.out.trans (hb.mono HB0.out.size))
    clear hb hc0
    go_wp2
    go_ret2
    exact ⟨rfl, HB1.out⟩
  | true =>
    rw [ht] at F
    have G2 := Lib.hid (G.out ((tableB_iff xs).1 ht).1.2)
    cases hq : ltB xs.length l with
    | false =>
      have HO : Hid (baOk xs l = false) := Lib.hid (by unfold baOk; unfold lttB; rw [ht, hq]; rfl)
      have HZ : Hid (baZ xs l = 0) := Lib.hid (if_neg (by rw [HO.out]; simp))
      rw [HO.out, HZ.out]
      rw [hq] at G2
      clear h hs ht hq HZ HO G
      go_enter Try.func43, Try.ntmps43
      go_wp2_with fail
      refine (F.out _ HB0.out).mono ?_
      rintro e w1 ⟨rfl, hb⟩
      have HB1 := Lib.hid (HB0.out.trans (hb.mono HB0.out.size))
      have hc1 := cell_belowB hb hc0
      clear hb hc0
      go_wp2_with fail
      refine (G2.out _ HB1.out).mono ?_
      rintro e w2 ⟨rfl, hb⟩
      have HB2 := Lib.hid (HB1.out.trans (hb.mono HB1.out.size))
      clear hb hc1
      go_wp2
      go_ret2
      exact ⟨rfl, HB2.out⟩
    | true =>
      have hlt : lttB xs l = true := by unfold lttB; rw [ht, hq]; rfl
      rw [hq] at G2
      by_cases h1 : l.length = 1
      · have HO : Hid (baOk xs l = false) := Lib.hid (by unfold baOk; rw [hlt, h1]; rfl)
        have HZ : Hid (baZ xs l = 0) := Lib.hid (if_neg (by rw [HO.out]; simp))
        have t1 : ((l.length : Int) == 1) = true := by rw [h1]; rfl
        rw [HO.out, HZ.out]
        clear h hs ht hq HZ HO G h1 hlt
        go_enter Try.func43, Try.ntmps43
        go_wp2_with fail
        refine (F.out _ HB0.out).mono ?_
        rintro e w1 ⟨rfl, hb⟩
        have HB1 := Lib.hid (HB0.out.trans (hb.mono HB0.out.size))
        have hc1 := cell_belowB hb hc0
        clear hb hc0
        go_wp2_with fail
        refine (G2.out _ HB1.out).mono ?_
        rintro e w2 ⟨rfl, hb⟩
        have HB2 := Lib.hid (HB1.out.trans (hb.mono HB1.out.size))
        clear hb hc1
        go_wp2
        go_ret2
        exact ⟨rfl, HB2.out⟩
      have t1 : ((l.length : Int) == 1) = false := beq_false_of_ne (by omega)
      have HO : Hid (baOk xs l = true) := Lib.hid (by unfold baOk; rw [hlt, decide_eq_true h1]; rfl)
      have HZ : Hid (baZ xs l = (((ask xs (l.map Int.toNat)).2 : Nat) : Int)) := Lib.hid (if_pos HO.out)
      rw [HO.out, HZ.out]
      obtain ⟨m, rfl, hm⟩ := lt_of hlt
      rw [map_zs, zs_len] at *
      rw [zs_ints] at hs
      have HD := Lib.hid fun W hb => sDepth_any a b o c xs m.length m (Nat.le_refl _) hm a1 g1 c1 W (h.below (w' := W) hb) (hs.below hb)
      have hfz : fstZ xs m = (((ask xs m).2 : Nat) : Int) := if_neg h1
      rw [hfz] at HD
      clear h hs ht hq hlt HZ HO hm G
      clear hfz h1
      generalize dep xs m = d at HD
      generalize (ask xs m).2 = d2 at HD ⊢
      go_enter Try.func43, Try.ntmps43
      go_wp2_with fail
      refine (F.out _ HB0.out).mono ?_
      rintro e w1 ⟨rfl, hb⟩
      have HB1 := Lib.hid (HB0.out.trans (hb.mono HB0.out.size))
      have hc1 := cell_belowB hb hc0
      clear hb hc0
      go_wp2_with fail
      refine (G2.out _ HB1.out).mono ?_
      rintro e w2 ⟨rfl, hb⟩
      have HB2 := Lib.hid (HB1.out.trans (hb.mono HB1.out.size))
      have hc2 := cell_belowB hb hc1
      clear hb hc1
      go_wp2_with fail
      refine (HD.out w2 HB2.out).mono ?_
      rintro e w3 ⟨rfl, hb⟩
      have HB3 := Lib.hid (HB2.out.trans (hb.mono HB2.out.size))
      clear hb
      go_wp2
      go_ret2
      exact ⟨rfl, HB3.out⟩
theorem depthOf_both (xs : List ByteArray) (l : List Int) (hxl : xs.length ≤ 1048576) (hxt : ∀ x ∈ xs, x.size ≤ 1048576) (hl : l.length ≤ 1048576) : ∃ (R0 : Int) (R1 : Bool),
    Hid (∀ W a b o c, ListIn W a b o xs → ∀ a1 g1 c1, SrcV W a1 g1 (intz l) → Calls Try.prog 41 #[.agg #[.slice a xs.length c], .slice a1 l.length c1] W fun e W' => e = .returned (.tuple #[.int .i64 R0, .bool R1]) ∧ Below W.heap.size W W') ∧
    Hid (∀ W a b o c, ListIn W a b o xs → ∀ a1 g1 c1, SrcV W a1 g1 (intz l) → Calls Try.prog 42 #[.agg #[.slice a xs.length c], .slice a1 l.length c1] W fun e W' => e = .returned (.tuple #[.int .i64 R0, .bool R1]) ∧ Below W.heap.size W W') :=
  ⟨_, _, fun W a b o c h a1 g1 c1 hs => sDepthOf_any a b o c xs a1 g1 c1 l W h hs hl, fun W a b o c h a1 g1 c1 hs => depthOfT_any a b o c xs a1 g1 c1 l W h hs hl⟩
theorem bestAsk_both (xs : List ByteArray) (l : List Int) (hxl : xs.length ≤ 1048576) (hxt : ∀ x ∈ xs, x.size ≤ 1048576) (hl : l.length ≤ 1048576) : ∃ (R0 : Int) (R1 : Bool),
    Hid (∀ W a b o c, ListIn W a b o xs → ∀ a1 g1 c1, SrcV W a1 g1 (intz l) → Calls Try.prog 43 #[.agg #[.slice a xs.length c], .slice a1 l.length c1] W fun e W' => e = .returned (.tuple #[.int .i64 R0, .bool R1]) ∧ Below W.heap.size W W') ∧
    Hid (∀ W a b o c, ListIn W a b o xs → ∀ a1 g1 c1, SrcV W a1 g1 (intz l) → Calls Try.prog 44 #[.agg #[.slice a xs.length c], .slice a1 l.length c1] W fun e W' => e = .returned (.tuple #[.int .i64 R0, .bool R1]) ∧ Below W.heap.size W W') :=
  ⟨_, _, fun W a b o c h a1 g1 c1 hs => sBestAsk_any a b o c xs a1 g1 c1 l W h hs hl, fun W a b o c h a1 g1 c1 hs => bestAskT_any a b o c xs a1 g1 c1 l W h hs hl⟩
end Go.Proofs.Ythkafalpjokfeaa
