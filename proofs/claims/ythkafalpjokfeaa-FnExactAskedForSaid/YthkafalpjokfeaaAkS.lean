/-
  l11All, l11Asked of the model; AskedFor of both. Used by the claims on chapter 11.
-/
import Derived.Test.YthkafalpjokfeaaApW
import Derived.Test.YthkafalpjokfeaaDpS
import Derived.Test.YthkafalpjokfeaaAnS
namespace Go.Proofs.Ythkafalpjokfeaa
open Go.RowKit Go.Shelf
set_option linter.unusedVariables false

set_option maxHeartbeats 8000000 in
set_option maxRecDepth 8000 in
theorem sAll_any (a : Option Addr) (c : Nat) (xs : List ByteArray) (w : World) (hn : xs.length ≤ 10) :
    Calls Try.prog 117 #[.agg #[.slice a xs.length c]] w (LetsOut (List.range xs.length) w) := by
  obtain ⟨i0, hi, hz0, hz1, hz2⟩ := infoL_parts infoIL
  have e0 : (w.alloc (.cells #[.slice a xs.length c] 29)).heap.size = w.heap.size + 1 := by simp
  have M0 : Hid (((w.alloc (.cells #[.slice a xs.length c] 29)).alloc (Obj.cells #[] 3)).ownsRow (w.heap.size + 1) 3 1 (.slice (some ⟨w.heap.size + 1, 0, none⟩) 0 0) 0 (ints [])) := Lib.hid (by
    have := row_emptyB (w.alloc (.cells #[.slice a xs.length c] 29)) (w.heap.size + 1) (by simp)
    rw [e0] at this
    exact this)
  have hB1 := Lib.hid ((below_alloc w (.cells #[.slice a xs.length c] 29)).alloc (by simp) (Obj.cells #[] 3))
  have hc0 := keep_cell (w.alloc (.cells #[.slice a xs.length c] 29)) (Obj.cells #[] 3) (cell_new w (.slice a xs.length c) 29)
  have hsz0 : Hid (w.heap.size + 1 ≤ ((w.alloc (.cells #[.slice a xs.length c] 29)).alloc (Obj.cells #[] 3)).heap.size) := Lib.hid (by simp)
  clear e0
  go_enter Try.func117, Try.ntmps117
  go_wp2
  go_loopw [3, 4] (fun pv v wr => ∃ k : Nat, v = .int .i64 k ∧ k ≤ xs.length ∧ wr.ownsRow (w.heap.size + 1) 3 1 pv k (ints (List.range k)) ∧ wr.cell? ⟨w.heap.size, 0, none⟩ = some (.slice a xs.length c) ∧ Hid (Below w.heap.size w wr) ∧ Hid (w.heap.size + 1 ≤ wr.heap.size)) (fun _ v _ => xs.length - (intOf v).toNat)
  case atStart => exact ⟨0, rfl, Nat.zero_le _, M0.out, hc0, hB1, hsz0⟩
  case round =>
    clear hc0
    obtain ⟨k, rfl, hk, hown, hc, HB, HZ⟩ := hrel
    obtain ⟨av, capv, rfl⟩ := row_form hown
    by_cases hlt : k < xs.length
    · have HE : Hid (List.range (k + 1) = List.range k ++ [k]) := Lib.hid List.range_succ
      have HOw := Lib.hid hown
      clear hown
      have hszr := HZ.out
      have HLt : Hid (∀ q, (Value.slice av k capv).ownBlock = some q → w.heap.size + 1 ≤ q) := Lib.hid fun q e => (ownBlock_geB HOw.out e).1
      go_wp2_with (first | (at_builtin; refine wpList_append_lies _ rfl _ _ 25 rfl (w.heap.size + 1) 3 i0 (.int .i64 0) 1 8 Try.underlying25 hi hz0 hz1 hz2 rfl (by decide) (.slice av k capv) k (ints (List.range k)) rfl (HOw.out.alloc _) ⟨wr.heap.size, 0, none⟩ 1 1 [.int .i64 (k : Int)] rfl rfl (cell_one_newB _ _ _) (by simp [Value.oneCell']) (by omega) (by unfold maxLen; omega) (by omega) (by simp; omega) (wr.heap.size + 1) (by simp) ?_; intro gg capg w4 hown4 hgrow4 hat4 hglt4) | go_in)
      have HW4 : Hid (w4.ownsRow (w.heap.size + 1) 3 1 (.slice (some ⟨gg, 0, none⟩) (k + 1) capg) (k + 1) (ints (List.range (k + 1)))) := Lib.hid (by rw [HE.out, ints_snoc]; exact hown4)
      have HB4 : Hid (Below w.heap.size w w4) := Lib.hid ((HB.out.alloc HB.out.size _).grown hgrow4 (by have := HB.out.size; simp; omega) (fun q e => by have := HLt.out q e; omega))
      have hc4 : w4.cell? ⟨w.heap.size, 0, none⟩ = some (.slice a xs.length c) := (World.cell?_of_block (a := ⟨w.heap.size, 0, none⟩) (hgrow4.block w.heap.size (by simp; omega) (fun e => by have := HLt.out _ e.symm; omega))).trans (keep_cell _ _ hc)
      have HZ4 : Hid (w.heap.size + 1 ≤ w4.heap.size) := Lib.hid (Nat.le_trans hszr (Nat.le_trans (by simp) hgrow4.size))
      clear hown4 hgrow4 hat4 hglt4 hc
      go_wp2
      go_roundw
      case rel => exact ⟨k + 1, by go_num, by omega, HW4.out, hc4, HB4, HZ4⟩
      case measure => simp [intOf]; omega
    · obtain rfl : k = xs.length := by omega
      have HO3 := Lib.hid (row_monoB hown (Nat.le_succ w.heap.size))
      clear hown
      go_wp2
      go_ret
      exact ⟨av, capv, by rw [List.length_range]; rfl, by rw [List.length_range]; exact HO3.out, HB.out⟩

/-- What lies in memory between two questions of the model. -/
structure Af (a : Option Addr) (c : Nat) (xs : List ByteArray) (w : World) (ps : List Nat) (pv : Value) (m : List Nat) (la : Option Addr) (lg : Nat) (W : World) : Prop where
  t : W.cell? ⟨w.heap.size, 0, none⟩ = some (.slice a xs.length c)
  row : W.ownsRow (w.heap.size + 1) 3 1 pv ps.length (ints ps)
  left : SrcV W la lg (ints m)
  apart : 0 < m.length → pv.ownBlock ≠ some lg
  be : Below w.heap.size w W
  sz : w.heap.size + 1 ≤ W.heap.size
section
variable {a : Option Addr} {c : Nat} {xs : List ByteArray} {w : World} {ps : List Nat} {pv : Value} {m : List Nat} {la : Option Addr} {lg : Nat} {W W' : World}
theorem Af.below (h : Af a c xs w ps pv m la lg W) (hb : Below W.heap.size W W') : Af a c xs w ps pv m la lg W' :=
  ⟨cell_belowB hb h.t, row_below h.row hb, h.left.below hb, h.apart, h.be.trans (hb.mono h.be.size), Nat.le_trans h.sz hb.size⟩
theorem Af.put (h : Af a c xs w ps pv m la lg W) (ob : Obj) (v' : Value) (p : Nat) (hg : (W.alloc ob).grownBy W' pv.ownBlock) (hown : W'.ownsRow (w.heap.size + 1) 3 1 v' (ps ++ [p]).length (ints (ps ++ [p]))) (hat : pv.ownBlock = v'.ownBlock ∨ v'.ownBlock = some (W.heap.size + 1)) : Af a c xs w (ps ++ [p]) v' m la lg W' := by
  have hb := h.below (below_alloc W ob)
  have hrow : ∀ r, pv.ownBlock = some r → w.heap.size + 1 ≤ r := fun r e => (ownBlock_geB h.row e).1
  have hne : ∀ i, i ≤ w.heap.size → some i ≠ pv.ownBlock := fun i hi e => by have := hrow i e.symm; omega
  refine ⟨(World.cell?_of_block (hg.block _ (World.block_lt_of_cell? _ _ hb.t) (hne _ (Nat.le_refl _)))).trans hb.t, hown, ⟨hb.left.1, fun k v hv => ?_⟩, fun h0 => ?_, hb.be.grown hg hb.be.size (fun q e => by have := hrow q e; omega), Nat.le_trans hb.sz hg.size⟩
  · have hk := hb.left.2 k v hv
    have hk0 : 0 < m.length := by
      have := (List.getElem?_eq_some_iff.1 hv).1
      rw [ints_len] at this; omega
    exact (World.cell?_of_block (a := ⟨lg, k, none⟩) (hg.block lg (World.block_lt_of_cell? _ _ hk) (fun e => h.apart hk0 e.symm))).trans hk
  · rcases hat with e | e
    · rw [← e]; exact h.apart h0
    · rw [e]
      intro e2
      have h1 := srcV_lt h.left (by rw [ints_len]; exact h0)
      injection e2
      omega
theorem Af.next {F : Nat → List Nat} {sv : Nat → Value} (h : Af a c xs w ps pv m la lg W) (hb : Below W.heap.size W W') (hR : Trw W' W.heap.size F sv) (q : Nat) : ∃ la' lg' lc', sv q = .slice la' (F q).length lc' ∧ Af a c xs w ps pv (F q) la' lg' W' := by
  obtain ⟨la', lg', lc', e, hs, hge, _⟩ := seq_of_row (hR.row q)
  have h2 := h.below hb
  refine ⟨la', lg', lc', e, h2.t, h2.row, hs, fun h0 e2 => ?_, h2.be, h2.sz⟩
  have h3 := (ownBlock_geB h.row e2).2
  have h4 := hge (by rw [ints_len]; exact h0)
  omega
end
set_option maxHeartbeats 16000000 in
set_option maxRecDepth 8000 in
theorem sAsked_any (a : Option Addr) (b o c : Nat) (xs : List ByteArray) (i : Nat) (w : World) (ht : tableB xs = true) (hi : i < xs.length) (h : ListIn w a b o xs) :
    Calls Try.prog 92 #[.agg #[.slice a xs.length c], .int .i64 (i : Int)] w (LetsOut (asked xs (atL xs i) (List.range xs.length)) w) := by
  have hn10 := ((tableB_iff xs).1 ht).1.2
  obtain ⟨i0, hi', hz0, hz1, hz2⟩ := infoL_parts infoIL
  have h5 : (atL xs i).size ≤ 5 := (lt_all ht).five i (List.mem_range.2 hi)
  have HAl := Lib.hid fun W => sAll_any a c xs W hn10
  have HLi := Lib.hid fun W hb => h.below (w' := W) hb
  have HAn := Lib.hid fun p (hp : p ≤ 5) W hb => sAns_any a b o c xs i p W (h.below (w' := W) hb) hi h5 hp
  have b1 := below_alloc w (.cells #[.slice a xs.length c] 29)
  have b2 := b1.alloc (by simp) (Obj.cells #[] 3)
  have e0 : (w.alloc (.cells #[.slice a xs.length c] 29)).heap.size = w.heap.size + 1 := by simp
  have k0 := keep_cell (w.alloc (.cells #[.slice a xs.length c] 29)) (Obj.cells #[] 3) (cell_new w (.slice a xs.length c) 29)
  have hr0 : ((w.alloc (.cells #[.slice a xs.length c] 29)).alloc (Obj.cells #[] 3)).ownsRow (w.heap.size + 1) 3 1 (.slice (some ⟨w.heap.size + 1, 0, none⟩) 0 0) 0 (ints []) := by
    have := row_emptyB (w.alloc (.cells #[.slice a xs.length c] 29)) (w.heap.size + 1) (by simp)
    rw [e0] at this
    exact this
  have HR0 := Lib.hid hr0
  have HB0 := Lib.hid b2
  have HZ0 : Hid (w.heap.size + 2 ≤ ((w.alloc (.cells #[.slice a xs.length c] 29)).alloc (Obj.cells #[] 3)).heap.size) := Lib.hid (by simp)
  have HT := Lib.hid ht
  have HI := Lib.hid hi
  clear h ht b1 b2 e0 hr0 hi
  go_enter Try.func92, Try.ntmps92
  go_wp2_with fail
  generalize (w.alloc (.cells #[.slice a xs.length c] 29)).alloc (Obj.cells #[] 3) = W0 at *
  refine (HAl.out W0).mono ?_
  rintro e w1 ⟨la0, lc0, rfl, hrow, hb⟩
  obtain ⟨la1, lg1, lc1, e1, hs1, hge1, _⟩ := seq_of_row hrow
  injection e1 with e2 e3 e4
  subst e2
  subst e4
  clear e3
  have HAf0 : Hid (Af a c xs w [] (.slice (some ⟨w.heap.size + 1, 0, none⟩) 0 0) (List.range xs.length) la0 lg1 w1) := Lib.hid (by
    refine ⟨cell_belowB hb k0, row_below HR0.out hb, hs1, fun h0 e => ?_, HB0.out.trans (hb.mono HB0.out.size), by have := HZ0.out; have := hb.size; omega⟩
    have h1 := hge1 (by rw [ints_len]; exact h0)
    have h2 : w.heap.size + 1 = lg1 := by simpa [Value.ownBlock] using e
    have h3 := HZ0.out
    omega)
  clear hb hrow hs1 hge1 k0
  go_wp2
  go_loopw [5, 6] (fun pv lv wr => ∃ (ps m : List Nat) (la av : Option Addr) (lg lc capv : Nat), lv = .slice la m.length lc ∧ pv = .slice av ps.length capv ∧ ps.length + m.length ≤ 10 ∧ Hid (Af a c xs w ps (.slice av ps.length capv) m la lg wr) ∧ Hid (Lt xs m) ∧ Hid (i ∈ m) ∧ Hid (ps ++ asked xs (atL xs i) m = asked xs (atL xs i) (List.range xs.length))) (fun _ lv _ => lenS lv)
  case atStart => exact ⟨[], List.range xs.length, la0, some ⟨w.heap.size + 1, 0, none⟩, lg1, lc0, 0, by rw [List.length_range], rfl, by rw [List.length_range]; simpa using hn10, HAf0, Lib.hid (lt_all HT.out), Lib.hid (List.mem_range.2 HI.out), Lib.hid rfl⟩
  case round =>
    obtain ⟨ps, m, la, av, lg, lc, capv, rfl, rfl, hlen, HAf, HLt, HMem, HAsk⟩ := hrel
    by_cases hl : 1 < m.length
    · have hl2 : (1 : Int) < (m.length : Int) := by omega
      have k0 := HAf.out.t
      have hfz : fstZ xs m = (((ask xs m).2 : Nat) : Int) := if_neg (by omega)
      have G := Lib.hid (sDepth_any a b o c xs m.length m (Nat.le_refl _) HLt.out la lg lc wr (HLi.out wr HAf.out.be) HAf.out.left)
      rw [hfz] at G
      have HAl2 := Lib.hid (asked_long HLt.out HMem.out (by omega))
      have HAp := Lib.hid (asked_part HLt.out HMem.out (by omega))
      have hp5 := HAp.out.2.2.2
      clear hfz
      generalize dep xs m = d at G
      generalize (ask xs m).2 = p at G HAl2 HAp hp5
      go_wp2_with fail
      refine (G.out).mono ?_
      rintro e w2 ⟨rfl, hb2⟩
      have HAf2 := Lib.hid (HAf.out.below hb2)
      have k2 := HAf2.out.t
      have HPb := Lib.hid (sPart_any a b o c xs la lg lc m p w2 (HLi.out w2 HAf2.out.be) HAf2.out.left HLt.out.lt HLt.out.five HLt.out.len (by omega))
      clear hb2 k0
      go_wp2_with fail
      refine (HPb.out).mono ?_
      rintro e w3 ⟨sv, rfl, hR3, hb3⟩
      obtain ⟨q, hq⟩ : ∃ q, q = ansB (atL xs i) p := ⟨_, rfl⟩
      have hq3 : q < 3 := by rw [hq]; exact ansB_lt _ _
      obtain ⟨la', lg', lc', hsv, hAf3⟩ := HAf2.out.next hb3 hR3 q
      obtain ⟨x0, y0, z0⟩ := hR3.form 0
      obtain ⟨x1, y1, z1⟩ := hR3.form 1
      obtain ⟨x2, y2, z2⟩ := hR3.form 2
      have HTr : Hid (Tri (w3.alloc (.cells #[.slice x0 (partK xs m p 0).length y0, .slice x1 (partK xs m p 1).length y1, .slice x2 (partK xs m p 2).length y2] 49)) w3.heap.size sv) := Lib.hid (by
        have := tri_new w3 sv
        rw [z0, z1, z2] at this
        exact this)
      have HAf4 := Lib.hid (hAf3.below (below_alloc w3 (.cells #[.slice x0 (partK xs m p 0).length y0, .slice x1 (partK xs m p 1).length y1, .slice x2 (partK xs m p 2).length y2] 49)))
      have HSv := Lib.hid hsv
      have HQ := Lib.hid hq
      rw [z0, z1, z2]
      have HA9 := Lib.hid (HAn.out p (by omega))
      rw [← hq] at HA9
      have k4 := HAf4.out.t
      clear z0 z1 z2 hsv hAf3 hR3 hb3 hq k2
      go_wp2_with fail
      generalize w3.alloc (.cells #[.slice x0 (partK xs m p 0).length y0, .slice x1 (partK xs m p 1).length y1, .slice x2 (partK xs m p 2).length y2] 49) = W4 at *
      refine (HA9.out _ HAf4.out.be).mono ?_
      rintro e w5 ⟨rfl, hb5⟩
      have HT5 := Lib.hid (HTr.out.below hb5)
      have HAf5 := Lib.hid (HAf4.out.below hb5)
      have d5 := HT5.out.cell q hq3
      rw [HSv.out] at d5
      have HO5 := Lib.hid HAf5.out.row
      have hsz5 := HAf5.out.sz
      have q0 : (0 : Int) ≤ (q : Int) := by omega
      have q1 : (q : Int) < 3 := by omega
      have hpl : ps.length ≤ 8 := by omega
      have HPt : Hid (partK xs m p q = partK xs m p (ansB (atL xs i) p)) := Lib.hid (by rw [HQ.out])
      have hlt5 : (partK xs m p q).length < m.length := by rw [HPt.out]; exact HAp.out.2.2.1
      have HAs2 : Hid ((ps ++ [p]) ++ asked xs (atL xs i) (partK xs m p q) = asked xs (atL xs i) (List.range xs.length)) := Lib.hid (by
        rw [← HAsk.out, HAl2.out, HPt.out]; simp)
      have HL2 : Hid (Lt xs (partK xs m p q)) := Lib.hid (by rw [HPt.out]; exact HAp.out.1)
      have HM2 : Hid (i ∈ partK xs m p q) := Lib.hid (by rw [HPt.out]; exact HAp.out.2.1)
      clear HPt HAp HAl2 HTr HSv HQ HAf4 hb5 k4
      generalize partK xs m p q = m2 at *
      go_wp2_with (first | (at_builtin; refine wpList_append_lies _ rfl _ _ 25 rfl (w.heap.size + 1) 3 i0 (.int .i64 0) 1 8 Try.underlying25 hi' hz0 hz1 hz2 rfl (by decide) (.slice av ps.length capv) ps.length (ints ps) rfl (HO5.out.alloc _) ⟨w5.heap.size, 0, none⟩ 1 1 [.int .i64 (p : Int)] rfl rfl (cell_one_newB _ _ _) (by simp [Value.oneCell']) (by omega) (by unfold maxLen; omega) (by omega) (by simp; omega) (w5.heap.size + 1) (by simp) ?_; intro gg capg w6 hown6 hgrow6 hat6 hglt6) | fail)
      have HAf6 : Hid (Af a c xs w (ps ++ [p]) (.slice (some ⟨gg, 0, none⟩) (ps.length + 1) capg) m2 la' lg' w6) := Lib.hid (HAf5.out.put _ _ p hgrow6 (by rw [ints_snoc]; simpa using hown6) (by
        rcases hat6 with h9 | h9
        · exact .inl h9
        · exact .inr (by rw [h9]; rfl)))
      clear hown6 hgrow6 hat6 hglt6 d5
      go_wp2
      go_roundw
      case rel => exact ⟨ps ++ [p], m2, la', some ⟨gg, 0, none⟩, lg', lc', capg, rfl, by rw [List.length_append]; rfl, by rw [List.length_append]; simp; omega, by rw [List.length_append]; exact HAf6, HL2, HM2, HAs2⟩
      case measure => simp [lenS]; omega
    · have hl2 : ¬ (1 : Int) < (m.length : Int) := by omega
      have HE : Hid (ps = asked xs (atL xs i) (List.range xs.length)) := Lib.hid (by rw [← HAsk.out, asked_short xs _ (by omega), List.append_nil])
      go_wp2
      go_ret
      rw [← HE.out]
      exact ⟨av, capv, rfl, row_monoB HAf.out.row (Nat.le_succ _), HAf.out.be⟩
end Go.Proofs.Ythkafalpjokfeaa
