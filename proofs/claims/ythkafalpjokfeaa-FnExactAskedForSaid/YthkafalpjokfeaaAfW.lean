/-
  askingFor, DepthOf, BestAsk of the program. Used by the claims on chapter 11.
-/
import Derived.Test.YthkafalpjokfeaaDpW
import Derived.Test.YthkafalpjokfeaaLtW
namespace Go.Proofs.Ythkafalpjokfeaa
open Go.RowKit Go.Shelf Go.Maps Go.WideMaps
set_option linter.unusedVariables false

/-- A Table and its depths in a block. -/
def Ab (w : World) (g : Nat) (v0 v1 : Value) : Prop := w.heap[g]? = some (.cells #[v0, v1] 96 (0, 0))
theorem Ab.cell0 {w : World} {g : Nat} {v0 v1 : Value} (h : Ab w g v0 v1) : w.cell? ⟨g, 0, none⟩ = some v0 := by
  unfold World.cell?; unfold Ab at h; simp [h]
theorem Ab.cell1 {w : World} {g : Nat} {v0 v1 : Value} (h : Ab w g v0 v1) : w.cell? ⟨g, 1, none⟩ = some v1 := by
  unfold World.cell?; unfold Ab at h; simp [h]
theorem Ab.frozen {w : World} {g : Nat} {v0 v1 : Value} (h : Ab w g v0 v1) (j : Nat) : w.frozen? ⟨g, j, none⟩ = false := by
  unfold World.frozen?; unfold Ab at h; simp [h]
theorem Ab.set0 {w : World} {g : Nat} {v0 v1 : Value} (h : Ab w g v0 v1) (u : Value) : Ab (w.setCell ⟨g, 0, none⟩ u) g u v1 := by
  unfold Ab at h ⊢; simp [World.setCell, Array.getElem?_modify, h]
theorem Ab.set1 {w : World} {g : Nat} {v0 v1 : Value} (h : Ab w g v0 v1) (u : Value) : Ab (w.setCell ⟨g, 1, none⟩ u) g v0 u := by
  unfold Ab at h ⊢; simp [World.setCell, Array.getElem?_modify, h]
theorem ab_size : (Try.prog.info? 96).map (·.size) = some 2 := by kernel_rfl
theorem load_ab {w : World} {g : Nat} {v0 v1 : Value} (h : Ab w g v0 v1) : (loadVar 96 ⟨g, 0, none⟩).run Try.prog w = .ok (.agg #[v0, v1]) w :=
  run_loadVar_row w g 96 96 #[v0, v1] (0, 0) _ h Try.underlying96 rfl ab_size
theorem res_ab {fn : Func} {p : Tmp} (h : fn.results = #[.cell p 96]) (tmps : Array Value) {w : World} {g : Nat} {v0 v1 : Value} (hp : tmps.getD p undef = .pointer (some ⟨g, 0, none⟩)) (hb : Ab w g v0 v1) : (results fn tmps).run Try.prog w = .ok (.agg #[v0, v1]) w := by
  have hp' : tmps[p]?.getD undef = .pointer (some ⟨g, 0, none⟩) := by simpa using hp
  simp [results, h, hp', asAddr, load_ab hb]

set_option maxHeartbeats 2000000 in
theorem askingFor_any (a : Option Addr) (c : Nat) (xs : List ByteArray) (w : World) :
    Calls Try.prog 89 #[.agg #[.slice a xs.length c]] w fun e w' => ∃ M, e = .returned (.agg #[.slice a xs.length c, .map (some M)]) ∧ w.heap.size ≤ M ∧ Dm xs M 0 w' ∧ Below w.heap.size w w' := by
  have e0 : (w.alloc (.cells #[.slice a xs.length c] 29)).heap.size = w.heap.size + 1 := by simp
  have e1 : ((w.alloc (.cells #[.slice a xs.length c] 29)).alloc (.cells #[.slice a xs.length c, .map (some (w.heap.size + 1 + 1))] 96)).heap.size = w.heap.size + 2 := by simp
  have hA : Ab (((w.alloc (.cells #[.slice a xs.length c] 29)).alloc (.cells #[.slice a xs.length c, .map (some (w.heap.size + 1 + 1))] 96)).alloc (.map #[] 0)) (w.heap.size + 1) (.slice a xs.length c) (.map (some (w.heap.size + 1 + 1))) := by
    have : Ab ((w.alloc (.cells #[.slice a xs.length c] 29)).alloc (.cells #[.slice a xs.length c, .map (some (w.heap.size + 1 + 1))] 96)) (w.heap.size + 1) (.slice a xs.length c) (.map (some (w.heap.size + 1 + 1))) := by
      have h := World.alloc_heap_new (w.alloc (.cells #[.slice a xs.length c] 29)) (.cells #[.slice a xs.length c, .map (some (w.heap.size + 1 + 1))] 96)
      rw [e0] at h
      exact h
    exact ((below_alloc _ (.map #[] 0)).block _ (Array.getElem?_eq_some_iff.1 this).1).trans this
  have hD : Dm xs (w.heap.size + 2) 0 (((w.alloc (.cells #[.slice a xs.length c] 29)).alloc (.cells #[.slice a xs.length c, .map (some (w.heap.size + 1 + 1))] 96)).alloc (.map #[] 0)) := by
    have := Dm.made xs ((w.alloc (.cells #[.slice a xs.length c] 29)).alloc (.cells #[.slice a xs.length c, .map (some (w.heap.size + 1 + 1))] 96))
    rw [e1] at this
    exact this
  have HA := Lib.hid hA
  have HD := Lib.hid hD
  have HB := Lib.hid (((below_alloc w (.cells #[.slice a xs.length c] 29)).alloc (by simp) (.cells #[.slice a xs.length c, .map (some (w.heap.size + 1 + 1))] 96)).alloc (by simp; omega) (.map #[] 0))
  have hmm := @run_makeMap Try.prog
  clear e0 e1 hA hD
  go_enter Try.func89, Try.ntmps89
  go_wp2
  refine bodyPost_ret (res_ab rfl _ rfl HA.out) rfl ?_
  exact ⟨w.heap.size + 2, rfl, by omega, HD.out, HB.out⟩

/-! ### DepthOf, BestAsk -/
theorem lt_of {xs : List ByteArray} {l : List Int} (h : lttB xs l = true) : ∃ m, l = zs m ∧ Lt xs m := by
  unfold lttB at h
  rw [Bool.and_eq_true] at h
  obtain ⟨m, e, h1, h2, h3, _⟩ := ltB_nat h.2
  exact ⟨m, e, h.1, h1, h2, h3⟩
theorem pow_lim {m : List Nat} (h : m.length ≤ 10) : 0 + 16 ^ m.length ≤ lim ∧ 0 + 15 * 16 ^ (m.length - 1) ≤ lim := by
  have h1 : 16 ^ m.length ≤ 16 ^ 10 := Nat.pow_le_pow_right (by omega) h
  have h2 : 16 ^ (m.length - 1) ≤ 16 ^ 10 := Nat.pow_le_pow_right (by omega) (by omega)
  have h3 : (16 : Nat) ^ 10 = 1099511627776 := by decide
  unfold lim
  omega
def dpZ (xs : List ByteArray) (l : List Int) : Int := if lttB xs l = true then ((dep xs (l.map Int.toNat) : Nat) : Int) else 0
def baOk (xs : List ByteArray) (l : List Int) : Bool := lttB xs l && decide (l.length ≠ 1)
def baZ (xs : List ByteArray) (l : List Int) : Int := if baOk xs l = true then (((ask xs (l.map Int.toNat)).2 : Nat) : Int) else 0
theorem below_asked {M : Nat} {w W W' : World} (hB : Below w.heap.size w W) (hg : W.grownBy W' (some M)) (hM : w.heap.size ≤ M) : Below w.heap.size w W' :=
  hB.grown hg hB.size (fun q e => by injection e with e; omega)
set_option maxHeartbeats 2000000 in
theorem depthOfT_any (a : Option Addr) (b o c : Nat) (xs : List ByteArray) (a1 : Option Addr) (g1 c1 : Nat) (l : List Int) (w : World) (h : ListIn w a b o xs) (hs : SrcV w a1 g1 (intz l)) (hl : l.length ≤ 1048576) :
    Calls Try.prog 42 #[.agg #[.slice a xs.length c], .slice a1 l.length c1] w fun e w' => e = .returned (.tuple #[.int .i64 (dpZ xs l), .bool (lttB xs l)]) ∧ Below w.heap.size w w' := by
  have F := Lib.hid fun W hb => areOf_any a b o c xs a1 g1 c1 l W (h.below (w' := W) hb) (hs.below hb) hl
  have hc0 := cell_new w (.slice a xs.length c) 29
  have HB0 := Lib.hid (below_alloc w (.cells #[.slice a xs.length c] 29))
  have HAf := Lib.hid fun W => askingFor_any a c xs W
  cases hq : lttB xs l with
  | false =>
    have HZ : Hid (dpZ xs l = 0) := Lib.hid (if_neg (by rw [hq]; simp))
    rw [HZ.out]
    rw [hq] at F
    clear h hs hq HZ
    go_enter Try.func42, Try.ntmps42
    go_wp2_with fail
    refine (F.out _ HB0.out).mono ?_
    rintro e w1 ⟨rfl, hb⟩
    have HB1 := Lib.hid (HB0.out.trans (hb.mono HB0.out.size))
    clear hb hc0
    go_wp2
    go_ret2
    exact ⟨rfl, HB1.out⟩
  | true =>
    have HZ : Hid (dpZ xs l = ((dep xs (l.map Int.toNat) : Nat) : Int)) := Lib.hid (if_pos hq)
    rw [HZ.out]
    rw [hq] at F
    obtain ⟨m, rfl, hm⟩ := lt_of hq
    rw [map_zs, zs_len] at *
    rw [zs_ints] at hs
    have HD := Lib.hid fun M W n hb hd hn => depthOf_any a b o c xs M m.length m (Nat.le_refl _) hm a1 g1 c1 n W (h.below (w' := W) hb) (hs.below hb) hd hn
    have HPw := Lib.hid (pow_lim hm.len).1
    clear h hs hq HZ hm
    generalize dep xs m = d at HD ⊢
    go_enter Try.func42, Try.ntmps42
    go_wp2_with fail
    refine (F.out _ HB0.out).mono ?_
    rintro e w1 ⟨rfl, hb⟩
    have HB1 := Lib.hid (HB0.out.trans (hb.mono HB0.out.size))
    have hc1 := cell_belowB hb hc0
    clear hb hc0
    go_wp2_with fail
    refine (HAf.out _).mono ?_
    rintro e w2 ⟨M, rfl, hM, hd, hb⟩
    have HB2 := Lib.hid (HB1.out.trans (hb.mono HB1.out.size))
    have HM := Lib.hid (Nat.le_trans HB1.out.size hM)
    have HDm := Lib.hid hd
    clear hb hd hM
    go_wp2_with fail
    refine (HD.out M w2 0 HB2.out HDm.out HPw.out).mono ?_
    rintro e w3 ⟨rfl, hg, _⟩
    have HB3 := Lib.hid (below_asked HB2.out hg HM.out)
    clear hg
    go_wp2
    go_ret2
    exact ⟨rfl, HB3.out⟩
set_option maxHeartbeats 2000000 in
theorem bestAskT_any (a : Option Addr) (b o c : Nat) (xs : List ByteArray) (a1 : Option Addr) (g1 c1 : Nat) (l : List Int) (w : World) (h : ListIn w a b o xs) (hs : SrcV w a1 g1 (intz l)) (hl : l.length ≤ 1048576) :
    Calls Try.prog 44 #[.agg #[.slice a xs.length c], .slice a1 l.length c1] w fun e w' => e = .returned (.tuple #[.int .i64 (baZ xs l), .bool (baOk xs l)]) ∧ Below w.heap.size w w' := by
  have F := Lib.hid fun W hb => areOf_any a b o c xs a1 g1 c1 l W (h.below (w' := W) hb) (hs.below hb) hl
  have hc0 := cell_new w (.slice a xs.length c) 29
  have HB0 := Lib.hid (below_alloc w (.cells #[.slice a xs.length c] 29))
  have HAf := Lib.hid fun W => askingFor_any a c xs W
  cases hq : lttB xs l with
  | false =>
    have HO : Hid (baOk xs l = false) := Lib.hid (by unfold baOk; rw [hq]; rfl)
    have HZ : Hid (baZ xs l = 0) := Lib.hid (if_neg (by rw [HO.out]; simp))
    rw [HO.out, HZ.out]
    rw [hq] at F
    clear h hs hq HZ HO
    go_enter Try.func44, Try.ntmps44
    go_wp2_with fail
    refine (F.out _ HB0.out).mono ?_
    rintro e w1 ⟨rfl, hb⟩
    have HB1 := Lib.hid (HB0.out.trans (hb.mono HB0.out.size))
    clear hb hc0
    go_wp2
    go_ret2
    exact ⟨rfl, HB1.out⟩
  | true =>
    rw [hq] at F
    by_cases h1 : l.length = 1
    · have HO : Hid (baOk xs l = false) := Lib.hid (by unfold baOk; rw [hq, h1]; rfl)
      have HZ : Hid (baZ xs l = 0) := Lib.hid (if_neg (by rw [HO.out]; simp))
      have t1 : ((l.length : Int) == 1) = true := by rw [h1]; rfl
      rw [HO.out, HZ.out]
      clear h hs hq HZ HO h1
      go_enter Try.func44, Try.ntmps44
      go_wp2_with fail
      refine (F.out _ HB0.out).mono ?_
      rintro e w1 ⟨rfl, hb⟩
      have HB1 := Lib.hid (HB0.out.trans (hb.mono HB0.out.size))
      clear hb hc0
      go_wp2
      go_ret2
      exact ⟨rfl, HB1.out⟩
    · have HO : Hid (baOk xs l = true) := Lib.hid (by unfold baOk; rw [hq, decide_eq_true h1]; rfl)
      have HZ : Hid (baZ xs l = (((ask xs (l.map Int.toNat)).2 : Nat) : Int)) := Lib.hid (if_pos HO.out)
      have t1 : ((l.length : Int) == 1) = false := beq_false_of_ne (by omega)
      rw [HO.out, HZ.out]
      obtain ⟨m, rfl, hm⟩ := lt_of hq
      rw [map_zs, zs_len] at *
      rw [zs_ints] at hs
      have h2 : 2 ≤ m.length := by
        have := List.length_pos_iff.2 hm.ne
        omega
      have HD := Lib.hid fun M W n hb hd hn => bestAsk_any a b o c xs M m hm h2 (fun l' hl' _ => depthOf_any a b o c xs M l'.length l' (Nat.le_refl _) hl') a1 g1 c1 n W (h.below (w' := W) hb) (hs.below hb) hd hn
      have HPw := Lib.hid (pow_lim hm.len).2
      clear h hs hq HZ HO hm h2 h1
      generalize (ask xs m).1 = d1 at HD
      generalize (ask xs m).2 = d2 at HD ⊢
      go_enter Try.func44, Try.ntmps44
      go_wp2_with fail
      refine (F.out _ HB0.out).mono ?_
      rintro e w1 ⟨rfl, hb⟩
      have HB1 := Lib.hid (HB0.out.trans (hb.mono HB0.out.size))
      have hc1 := cell_belowB hb hc0
      clear hb hc0
      go_wp2_with fail
      refine (HAf.out _).mono ?_
      rintro e w2 ⟨M, rfl, hM, hd, hb⟩
      have HB2 := Lib.hid (HB1.out.trans (hb.mono HB1.out.size))
      have HM := Lib.hid (Nat.le_trans HB1.out.size hM)
      have HDm := Lib.hid hd
      clear hb hd hM
      go_wp2_with fail
      refine (HD.out M w2 0 HB2.out HDm.out HPw.out).mono ?_
      rintro e w3 ⟨rfl, hg, _⟩
      have HB3 := Lib.hid (below_asked HB2.out hg HM.out)
      clear hg
      go_wp2
      go_ret2
      exact ⟨rfl, HB3.out⟩
end Go.Proofs.Ythkafalpjokfeaa
