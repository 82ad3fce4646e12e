/-
  Three slices in a block; partBy of the program. Used by the claims on chapter 11.
-/
import Derived.Test.YthkafalpjokfeaaBhW
import Derived.Test.YthkafalpjokfeaaAnW
namespace Go.Proofs.Ythkafalpjokfeaa
open Go.RowKit
set_option linter.unusedVariables false

/-- Three values in a block. -/
def Tri (w : World) (g : Nat) (s : Nat → Value) : Prop := w.heap[g]? = some (.cells #[s 0, s 1, s 2] 49 (0, 0))
theorem Tri.cell {w : World} {g : Nat} {s : Nat → Value} (h : Tri w g s) (j : Nat) (hj : j < 3) : w.cell? ⟨g, j, none⟩ = some (s j) := by
  unfold World.cell?; unfold Tri at h
  rcases (show j = 0 ∨ j = 1 ∨ j = 2 by omega) with rfl | rfl | rfl <;> simp [h]
theorem Tri.frozen {w : World} {g : Nat} {s : Nat → Value} (h : Tri w g s) (j : Nat) : w.frozen? ⟨g, j, none⟩ = false := by
  unfold World.frozen?; unfold Tri at h; simp [h]
theorem Tri.set {w : World} {g : Nat} {s : Nat → Value} (h : Tri w g s) (j : Nat) (hj : j < 3) (u : Value) : Tri (w.setCell ⟨g, j, none⟩ u) g (fun i => if i = j then u else s i) := by
  unfold Tri at h ⊢
  rcases (show j = 0 ∨ j = 1 ∨ j = 2 by omega) with rfl | rfl | rfl <;> simp [World.setCell, Array.getElem?_modify, h]
theorem tri_size : (Try.prog.info? 49).map (·.size) = some 3 := by kernel_rfl
theorem load_tri {w : World} {g : Nat} {s : Nat → Value} (h : Tri w g s) : (loadVar 49 ⟨g, 0, none⟩).run Try.prog w = .ok (.agg #[s 0, s 1, s 2]) w :=
  run_loadVar_row w g 49 49 #[s 0, s 1, s 2] (0, 0) _ h Try.underlying49 rfl tri_size
theorem res_tri {fn : Func} {p : Tmp} (h : fn.results = #[.cell p 49]) (tmps : Array Value) {w : World} {g : Nat} {s : Nat → Value} (hp : tmps.getD p undef = .pointer (some ⟨g, 0, none⟩)) (hb : Tri w g s) : (results fn tmps).run Try.prog w = .ok (.agg #[s 0, s 1, s 2]) w := by
  have hp' : tmps[p]?.getD undef = .pointer (some ⟨g, 0, none⟩) := by simpa using hp
  simp [results, h, hp', asAddr, load_tri hb]
theorem res_tri2 {fn : Func} {p u : Tmp} (h : fn.results = #[.cell p 49, .tmp u]) (tmps : Array Value) {w : World} {g : Nat} {s : Nat → Value} (hp : tmps.getD p undef = .pointer (some ⟨g, 0, none⟩)) (hb : Tri w g s) : (results fn tmps).run Try.prog w = .ok (.tuple #[.agg #[s 0, s 1, s 2], tmps.getD u undef]) w := by
  rw [results_cell_tmp h, hp]
  simp [asAddr, load_tri hb, Result.andThen]
theorem Tri.below {w w' : World} {g : Nat} {s : Nat → Value} (h : Tri w g s) (hb : Below w.heap.size w w') : Tri w' g s := (hb.block g (Array.getElem?_eq_some_iff.1 h).1).trans h
theorem Tri.other {w : World} {g : Nat} {s : Nat → Value} (h : Tri w g s) {p : Addr} (hp : p.block ≠ g) (v : Value) : Tri (w.setCell p v) g s := by
  unfold Tri at h ⊢
  simp [World.setCell, Array.getElem?_modify, hp, h]
theorem tri_new (w : World) (s : Nat → Value) : Tri (w.alloc (.cells #[s 0, s 1, s 2] 49)) w.heap.size s := heap_alloc_new _ _
theorem Tri.lt {w : World} {g : Nat} {s : Nat → Value} (h : Tri w g s) : g < w.heap.size := (Array.getElem?_eq_some_iff.1 h).1

abbrev nilT : Value := .slice none 0 0
/-- Slices of the call's own, no two in one row. -/
structure Trw (w : World) (base : Nat) (F : Nat → List Nat) (sv : Nat → Value) : Prop where
  row : ∀ d, w.ownsRow base 3 1 (sv d) (F d).length (ints (F d))
  apart : ∀ d d', d ≠ d' → (sv d).ownBlock = none ∨ (sv d).ownBlock ≠ (sv d').ownBlock
theorem Trw.form {w : World} {base : Nat} {F : Nat → List Nat} {sv : Nat → Value} (h : Trw w base F sv) (d : Nat) : ∃ a c, sv d = .slice a (F d).length c := row_form (h.row d)
theorem Trw.below {w w' : World} {base : Nat} {F : Nat → List Nat} {sv : Nat → Value} (h : Trw w base F sv) (hb : Below w.heap.size w w') : Trw w' base F sv := ⟨fun d => row_below (h.row d) hb, h.apart⟩
theorem Trw.mono {w : World} {base base' : Nat} {F : Nat → List Nat} {sv : Nat → Value} (h : Trw w base F sv) (hb : base' ≤ base) : Trw w base' F sv := ⟨fun d => row_monoB (h.row d) hb, h.apart⟩
theorem rows_none (w : World) (base : Nat) : Trw w base (fun _ => []) (fun _ => nilT) := ⟨fun d => World.ownsRow_nil _ _ _ _, fun d d' _ => .inl rfl⟩
theorem Trw.set {w : World} {base g : Nat} {F : Nat → List Nat} {sv : Nat → Value} (h : Trw w base F sv) (hg : g < base) (o : Nat) (v : Value) : Trw (w.setCell ⟨g, o, none⟩ v) base F sv :=
  ⟨fun d => (h.row d).kept (grown_set o v) (by
    cases hq : (sv d).ownBlock with
    | none => exact .inl rfl
    | some q => exact .inr (fun e => by have := (ownBlock_geB (h.row d) hq).1; injection e; omega)), h.apart⟩
theorem Trw.step {w u w2 : World} {base : Nat} {F F' : Nat → List Nat} {sv : Nat → Value} (h : Trw w base F sv) (d0 : Nat) (x : Nat) (hu : Below w.heap.size w u) (v : Value)
    (hg : u.grownBy w2 (sv d0).ownBlock) (hv : w2.ownsRow base 3 1 v (F d0 ++ [x]).length (ints (F d0 ++ [x]))) (hat : (sv d0).ownBlock = v.ownBlock ∨ v.ownBlock = some (w.heap.size + 1))
    (hF : F' d0 = F d0 ++ [x]) (hF2 : ∀ d, d ≠ d0 → F' d = F d) : Trw w2 base F' (fun d => if d = d0 then v else sv d) := by
  refine ⟨fun d => ?_, fun d d' hne => ?_⟩
  · by_cases e1 : d = d0
    · subst e1
      rw [if_pos rfl, hF]
      exact hv
    · rw [if_neg e1, hF2 d e1]
      exact (row_below (h.row d) hu).kept hg (h.apart d d0 e1)
  · by_cases e1 : d = d0
    · subst e1
      rw [if_pos rfl, if_neg (Ne.symm hne)]
      rcases hat with h1 | h1
      · rw [← h1]; exact h.apart d d' hne
      · right
        rw [h1]
        intro e2
        have := (ownBlock_geB (h.row d') e2.symm).2
        omega
    · rw [if_neg e1]
      by_cases e2 : d' = d0
      · subst e2
        rw [if_pos rfl]
        rcases hat with h1 | h1
        · rw [← h1]; exact h.apart d d' hne
        · cases hq : (sv d).ownBlock with
          | none => exact .inl rfl
          | some q =>
            right
            rw [h1]
            intro e3
            have := (ownBlock_geB (h.row d) hq).2
            injection e3
            omega
      · rw [if_neg e2]; exact h.apart d d' hne
/-- Parts as an answer. -/
def PartsOut (F : Nat → List Nat) (W : World) (e : Ending) (W' : World) : Prop := ∃ sv, e = .returned (.agg #[sv 0, sv 1, sv 2]) ∧ Trw W' W.heap.size F sv ∧ Below W.heap.size W W'

theorem part_ge {xs : List ByteArray} {m : List Nat} {p q : Nat} (hq : 3 ≤ q) : partK xs m p q = [] := by
  unfold partK
  rw [List.filter_eq_nil_iff]
  intro i _ h
  have := ansB_lt (atL xs i) p
  simp at h
  omega
theorem take_snocB (l : List Nat) (k : Nat) (h : k < l.length) : l.take (k + 1) = l.take k ++ [l[k]] := by
  rw [List.take_add_one, List.getElem?_eq_getElem h]; rfl

set_option maxHeartbeats 8000000 in
set_option maxRecDepth 8000 in
theorem partBy_any (a : Option Addr) (b o c : Nat) (xs : List ByteArray) (a1 : Option Addr) (g1 c1 : Nat) (m : List Nat) (p : Nat) (w : World) (h : ListIn w a b o xs) (hs : SrcV w a1 g1 (ints m)) (hm : ∀ i ∈ m, i < xs.length) (h5 : ∀ i ∈ m, (atL xs i).size ≤ 5) (hml : m.length ≤ 10) (hp : p ≤ 5) :
    Calls Try.prog 87 #[.agg #[.slice a xs.length c], .slice a1 m.length c1, .int .i64 p] w (PartsOut (fun q => partK xs m p q) w) := by
  have hxl := h.len
  have HS := Lib.hid fun W hb => h.below (w' := W) hb
  have HV := Lib.hid fun W hb => hs.below (w' := W) hb
  have HM := Lib.hid hm
  have H5 := Lib.hid h5
  obtain ⟨i0, hi, hz0, hz1, hz2⟩ := infoL_parts infoIL
  have HA := Lib.hid fun x W (hx : ByteArray.size x ≤ 5) => answerOf_any x p W hx hp
  have e0 : (w.alloc (.cells #[.slice a xs.length c] 29)).heap.size = w.heap.size + 1 := by simp
  have e1 : ((w.alloc (.cells #[.slice a xs.length c] 29)).alloc (.cells #[nilT, nilT, nilT] 49)).heap.size = w.heap.size + 2 := by simp
  have HR1 : Hid (Tri ((w.alloc (.cells #[.slice a xs.length c] 29)).alloc (.cells #[nilT, nilT, nilT] 49)) (w.heap.size + 1) (fun _ => nilT)) := Lib.hid (by
    have := tri_new (w.alloc (.cells #[.slice a xs.length c] 29)) (fun _ => nilT)
    rw [e0] at this
    exact this)
  have HR2 : Hid (Tri (((w.alloc (.cells #[.slice a xs.length c] 29)).alloc (.cells #[nilT, nilT, nilT] 49)).alloc (.cells #[nilT, nilT, nilT] 49)) (w.heap.size + 2) (fun _ => nilT)) := Lib.hid (by
    have := tri_new ((w.alloc (.cells #[.slice a xs.length c] 29)).alloc (.cells #[nilT, nilT, nilT] 49)) (fun _ => nilT)
    rw [e1] at this
    exact this)
  have HR3 := Lib.hid (HR1.out.below (below_alloc _ (.cells #[nilT, nilT, nilT] 49)))
  have HB0 := Lib.hid (((below_alloc w (.cells #[.slice a xs.length c] 29)).alloc (by simp) (.cells #[nilT, nilT, nilT] 49)).alloc (by simp; omega) (.cells #[nilT, nilT, nilT] 49))
  have hk0 := keep_cell _ (.cells #[nilT, nilT, nilT] 49) (keep_cell _ (.cells #[nilT, nilT, nilT] 49) (cell_new w (.slice a xs.length c) 29))
  have HZ0 : Hid (w.heap.size + 3 ≤ (((w.alloc (.cells #[.slice a xs.length c] 29)).alloc (.cells #[nilT, nilT, nilT] 49)).alloc (.cells #[nilT, nilT, nilT] 49)).heap.size) := Lib.hid (by simp)
  clear e0 e1 h hs hm h5 HR1
  go_enter Try.func87, Try.ntmps87
  go_wp2
  generalize (((w.alloc (.cells #[.slice a xs.length c] 29)).alloc (.cells #[nilT, nilT, nilT] 49)).alloc (.cells #[nilT, nilT, nilT] 49)) = W0 at *
  go_loopw [14] (fun v wr => ∃ (k : Nat) (sv : Nat → Value), v = .int .i64 k ∧ k ≤ m.length ∧ wr.cell? ⟨w.heap.size, 0, none⟩ = some (.slice a xs.length c) ∧ Hid (Tri wr (w.heap.size + 2) sv) ∧ Hid (Tri wr (w.heap.size + 1) (fun _ => nilT)) ∧ Hid (Trw wr (w.heap.size + 3) (fun q => partK xs (m.take k) p q) sv) ∧ Hid (Below w.heap.size w wr) ∧ Hid (w.heap.size + 3 ≤ wr.heap.size)) (fun v _ => m.length - (intOf v).toNat)
  case atStart => exact ⟨0, fun _ => nilT, rfl, Nat.zero_le _, hk0, HR2, HR3, Lib.hid (rows_none _ _), HB0, HZ0⟩
  case round =>
    clear hk0
    obtain ⟨k, sv, rfl, hk, hc, HT, HU, HRw, HB, HZ⟩ := hrel
    by_cases hlt : k < m.length
    · obtain rfl := (HV.out wr HB.out).1 (by rw [ints_len]; omega)
      have d1 := (HV.out wr HB.out).2 k _ (ints_at hlt)
      have hil := HM.out _ (List.getElem_mem hlt)
      have h5i := H5.out _ (List.getElem_mem hlt)
      have HTk := Lib.hid (take_snocB m k hlt)
      generalize m[k] = i at d1 hil h5i HTk
      obtain rfl := (HS.out wr HB.out).src.1 (by omega)
      have hcell := (HS.out wr HB.out).src.2 i _ (List.getElem?_eq_getElem hil)
      have HX := Lib.hid (atL_eq (List.getElem?_eq_getElem hil))
      rw [HX.out] at h5i
      generalize xs[i] = x at hcell HX h5i
      have HP := Lib.hid fun W => HA.out x W h5i
      have hq3 := ansB_lt x p
      have HSn : Hid (∀ q, partK xs (m.take (k + 1)) p q = partK xs (m.take k) p q ++ (if ansB x p = q then [i] else [])) := Lib.hid fun q => by rw [HTk.out, partK_snoc, HX.out]
      generalize ansB x p = q at HP hq3 HSn
      obtain ⟨av, cv, hsv⟩ := HRw.out.form q
      have hcq := HT.out.cell q hq3
      rw [hsv] at hcq
      have hrow := HRw.out.row q
      rw [hsv] at hrow
      have HSV := Lib.hid hsv
      have hpl : (partK xs (m.take k) p q).length ≤ 10 := by
        have h1 := partK_le xs (m.take k) p q
        have h2 := List.length_take_le k m
        omega
      have HSq := Lib.hid (HSn.out q)
      rw [if_pos rfl] at HSq
      have HSo : Hid (∀ d, d ≠ q → partK xs (m.take (k + 1)) p d = partK xs (m.take k) p d) := Lib.hid fun d hd => by rw [HSn.out d, if_neg (Ne.symm hd), List.append_nil]
      obtain ⟨ys, hys⟩ : ∃ ys, partK xs (m.take k) p q = ys := ⟨_, rfl⟩
      rw [hys] at hcq hrow hpl HSq HSV
      have HYS := Lib.hid hys
      have HOw := Lib.hid hrow
      clear hys hsv hrow HSn
      have q0 : (0 : Int) ≤ (q : Int) := by omega
      have q1 : (q : Int) < 3 := by omega
      have j0 : (0 : Int) ≤ (i : Int) := by omega
      have j1 : (i : Int) < (xs.length : Int) := by omega
      have hszr := HZ.out
      have HLt : Hid (∀ r, (Value.slice av ys.length cv).ownBlock = some r → w.heap.size + 3 ≤ r) := Lib.hid fun r e => (ownBlock_geB HOw.out e).1
      go_wp2_with fail
      refine (HP.out _).mono ?_
      rintro e w5 ⟨rfl, hww⟩
      obtain rfl := hww.symm
      go_wp2_with (first | (at_builtin; refine wpList_append_lies _ rfl _ _ 25 rfl (w.heap.size + 3) 3 i0 (.int .i64 0) 1 8 Try.underlying25 hi hz0 hz1 hz2 rfl (by decide) (.slice av ys.length cv) ys.length (ints ys) rfl (HOw.out.alloc _) ⟨wr.heap.size, 0, none⟩ 1 1 [.int .i64 (i : Int)] rfl rfl (cell_one_newB _ _ _) (by simp [Value.oneCell']) (by omega) (by unfold maxLen; omega) (by omega) (by simp; omega) (wr.heap.size + 1) (by simp) ?_; intro gg capg w4 hown4 hgrow4 hat4 hglt4; have HT4 : Hid (Tri w4 (w.heap.size + 2) sv) := Lib.hid ((hgrow4.block (w.heap.size + 2) (by simp; omega) (fun e => by have := HLt.out _ e.symm; omega)).trans (HT.out.below (below_alloc wr _))); have f4 := HT4.out.frozen q; have k4 := HT4.out.cell q hq3) | go_in)
      have HW4 : Hid (Trw w4 (w.heap.size + 3) (fun q => partK xs (m.take (k + 1)) p q) (fun d => if d = q then .slice (some ⟨gg, 0, none⟩) (ys.length + 1) capg else sv d)) := Lib.hid (HRw.out.step q i (below_alloc wr _) _ (by rw [HSV.out]; exact hgrow4) (by rw [HYS.out, ints_snoc]; simpa using hown4) (by
        rw [HSV.out]
        rcases hat4 with h9 | h9
        · exact .inl h9
        · exact .inr (by rw [h9]; rfl)) (by rw [HSq.out, HYS.out]) HSo.out)
      have HU4 : Hid (Tri w4 (w.heap.size + 1) (fun _ => nilT)) := Lib.hid ((hgrow4.block (w.heap.size + 1) (by simp; omega) (fun e => by have := HLt.out _ e.symm; omega)).trans (HU.out.below (below_alloc wr _)))
      have HB4 : Hid (Below w.heap.size w w4) := Lib.hid ((HB.out.alloc HB.out.size _).grown hgrow4 (by have := HB.out.size; simp; omega) (fun q e => by have := HLt.out q e; omega))
      have hc4 : w4.cell? ⟨w.heap.size, 0, none⟩ = some (.slice (some ⟨b, o, none⟩) xs.length c) := (World.cell?_of_block (a := ⟨w.heap.size, 0, none⟩) (hgrow4.block w.heap.size (by simp; omega) (fun e => by have := HLt.out _ e.symm; omega))).trans (keep_cell _ _ hc)
      have HZ4 : Hid (w.heap.size + 3 ≤ w4.heap.size) := Lib.hid (Nat.le_trans hszr (Nat.le_trans (by simp) hgrow4.size))
      clear hown4 hgrow4 hat4 hglt4 hc hcq f4 k4
      go_wp2
      go_roundw
      case rel => exact ⟨k + 1, _, by go_num, by omega, (World.cell?_setCell_other _ _ _ _ (by intro e; injection e; omega)).trans hc4, Lib.hid (HT4.out.set q hq3 _), Lib.hid (HU4.out.other (by simp) _), Lib.hid (HW4.out.set (by omega) _ _), Lib.hid (HB4.out.setCell (p := ⟨w.heap.size + 2, q, none⟩) (by simp) _), Lib.hid (by have := HZ4.out; simpa [World.setCell] using this)⟩
      case measure => simp [intOf]; omega
    · obtain rfl : k = m.length := by omega
      rw [List.take_length] at HRw
      have l0 : (loadVar 49 ⟨w.heap.size + 1 + 1, 0, none⟩).run Try.prog wr = _ := load_tri HT.out
      have t0 : wr.cell? ⟨w.heap.size + 1 + 1, 0, none⟩ = _ := HT.out.cell 0 (by omega)
      have t1 : wr.cell? ⟨w.heap.size + 1 + 1, 1, none⟩ = _ := HT.out.cell 1 (by omega)
      have t2 : wr.cell? ⟨w.heap.size + 1 + 1, 2, none⟩ = _ := HT.out.cell 2 (by omega)
      obtain ⟨b0, n0, h0⟩ := HRw.out.form 0
      obtain ⟨b1, n1, h1⟩ := HRw.out.form 1
      obtain ⟨b2, n2, h2⟩ := HRw.out.form 2
      rw [h0, h1, h2] at l0
      rw [h0] at t0
      rw [h1] at t1
      rw [h2] at t2
      have HV3 := Lib.hid (And.intro h0 (And.intro h1 h2))
      have f0 := HU.out.frozen 0
      have f1 := HU.out.frozen 1
      have f2 := HU.out.frozen 2
      clear h0 h1 h2
      have k0 := HU.out.cell 0 (by omega)
      have k1 := HU.out.cell 1 (by omega)
      have k2 := HU.out.cell 2 (by omega)
      go_wp2
      refine bodyPost_ret (res_tri rfl _ rfl ((((HU.out.set 0 (by omega) _).set 1 (by omega) _).set 2 (by omega) _))) rfl ?_
      exact ⟨sv, by rw [HV3.out.1, HV3.out.2.1, HV3.out.2.2]; rfl, ((((HRw.out.set (g := w.heap.size + 1) (by omega) 0 _).set (by omega) 1 _).set (by omega) 2 _).mono (by omega)), ((HB.out.setCell (p := ⟨w.heap.size + 1, 0, none⟩) (by simp) _).setCell (p := ⟨w.heap.size + 1, 1, none⟩) (by simp) _).setCell (p := ⟨w.heap.size + 1, 2, none⟩) (by simp) _⟩
end Go.Proofs.Ythkafalpjokfeaa
