/-
  ChancesSent and BestGuess of the model. Used by the claims on chapter 7.
-/
import Derived.Test.YtomhjfjfmjacfaaRtS
import Derived.Test.YtomhjfjfmjacfaaIsTableB
namespace Go.Proofs.Ytomhjfjfmjacfaa
open Go.RowKit
set_option linter.unusedVariables false

theorem infoIn : (Try.prog.info? 3).map (fun i => (i.zero, i.size, i.bytes)) = some (some (.int .i64 0), 1, 8) := by kernel_rfl
/-! ### Plain -/
/-- The parts in which marks come of each letter. -/
def snL (p q : Nat) (xs : List ByteArray) (y : Bs) : List Nat := xs.map fun x => ptN p q (bl x) y
theorem sn_succ {p q : Nat} {xs : List ByteArray} {y : Bs} {k : Nat} {x : ByteArray} (h : xs[k]? = some x) : snL p q (xs.take (k + 1)) y = snL p q (xs.take k) y ++ [ptN p q (bl x) y] := by
  unfold snL
  rw [List.take_add_one, h]; simp
theorem sn_len (p q : Nat) (xs : List ByteArray) (y : Bs) : (snL p q xs y).length = xs.length := by unfold snL; rw [List.length_map]
theorem sn_le {p q : Nat} {y : Bs} : ∀ {xs : List ByteArray}, (∀ x ∈ xs, marksL (bl x) = true) → (snL p q xs y).sum ≤ xs.length * allN p q
  | [], _ => by simp [snL]
  | x :: ys, h => by
    have ih := sn_le (p := p) (q := q) (y := y) (xs := ys) (fun z hz => h z (List.mem_cons_of_mem _ hz))
    have hy := ptN_le (p := p) (q := q) (x := bl x) (y := y) (marks_len (h x (List.mem_cons_self ..))).2
    have e : (snL p q (x :: ys) y).sum = ptN p q (bl x) y + (snL p q ys y).sum := by simp [snL]
    rw [e, List.length_cons, Nat.add_mul, Nat.one_mul]
    omega
theorem sn_take_le (p q : Nat) (xs : List ByteArray) (y : Bs) (k : Nat) : (snL p q (xs.take k) y).sum ≤ (snL p q xs y).sum := by
  conv => rhs; rw [← List.take_append_drop k xs]
  unfold snL
  rw [List.map_append, List.sum_append]
  omega
def csB (N d : Int) (xs : List ByteArray) (y : ByteArray) : Bool := (tableB xs && goodN N d) && marksL (bl y)
def csS (N d : Int) (xs : List ByteArray) (y : ByteArray) : Nat := (snL N.toNat (d - N).toNat xs (bl y)).sum
def csOk (N d : Int) (xs : List ByteArray) (y : ByteArray) : Bool := csB N d xs y && decide (0 < csS N d xs y)
def csL (N d : Int) (xs : List ByteArray) (y : ByteArray) : List (Nat × Nat) := if csOk N d xs y = true then frs (csS N d xs y) (snL N.toNat (d - N).toNat xs (bl y)) else []
theorem cs_no {N d : Int} {xs : List ByteArray} {y : ByteArray} (h : csB N d xs y = false) : csOk N d xs y = false ∧ csL N d xs y = [] := by
  have e : csOk N d xs y = false := by unfold csOk; rw [h, Bool.false_and]
  exact ⟨e, if_neg (by rw [e]; decide)⟩
theorem cs_yes {N d : Int} {xs : List ByteArray} {y : ByteArray} (hg : goodN N d = true) : ∃ p q e : Nat, N = (p : Int) ∧ d = (e : Int) ∧ e = p + q ∧ 1 ≤ e ∧ e ≤ 100 ∧ N.toNat = p ∧ (d - N).toNat = q := by
  obtain ⟨p, q, hN, hd, g1, g2⟩ := goodN_iff.1 hg
  exact ⟨p, q, p + q, hN, hd, rfl, g1, g2, by omega, by omega⟩

set_option maxHeartbeats 4000000 in
set_option maxRecDepth 20000 in
theorem sSent_any (a : Option Addr) (b o c : Nat) (xs : List ByteArray) (p q e : Nat) (y : ByteArray) (w : World) (h : ListIn w a b o xs) (ht : tableB xs = true) (he : e = p + q) (g1 : 1 ≤ e) (g2 : e ≤ 100) (hy5 : y.size ≤ 5) :
    Calls Try.prog 71 #[.agg #[.slice a xs.length c], .agg #[.int .i64 (p : Int), .int .i64 (e : Int)], .string y] w fun e' w' => ∃ a' g' c', e' = .returned (.tuple #[.slice a' xs.length c', .int .i64 (((snL p q xs (bl y)).sum : Nat) : Int)]) ∧ SrcV w' a' g' (ints (snL p q xs (bl y))) ∧ w.heap.size ≤ g' ∧ Below w.heap.size w w' := by
  obtain ⟨i0, hi, hz0, hz1, hz2⟩ := info_parts infoIn
  have HC0 := Lib.hid (carT_new w a b o c xs (p : Int) (e : Int) h)
  have HC := Lib.hid (HC0.out.step (below_alloc _ (Obj.cells #[] 3)))
  have HSz : Hid (((w.alloc (.cells #[.slice a xs.length c] 38)).alloc (.cells #[.int .i64 (p : Int), .int .i64 (e : Int)] 25)).heap.size = w.heap.size + 1 + 1) := Lib.hid (by simp)
  have M0 : Hid ((((w.alloc (.cells #[.slice a xs.length c] 38)).alloc (.cells #[.int .i64 (p : Int), .int .i64 (e : Int)] 25)).alloc (Obj.cells #[] 3)).ownsRow (w.heap.size + 1 + 1) 3 1 (.slice (some ⟨w.heap.size + 1 + 1, 0, none⟩) 0 0) 0 (ints [])) := Lib.hid (by
    have := World.ownsRow_made (base := w.heap.size + 1 + 1) (e := 3) (size := 1) ((w.alloc (.cells #[.slice a xs.length c] 38)).alloc (.cells #[.int .i64 (p : Int), .int .i64 (e : Int)] 25)) #[] 0 (by rw [HSz.out]; exact Nat.le_refl _) (by unfold maxLen; omega) rfl
    rw [HSz.out] at this
    exact this)
  have HN1 := Lib.hid ((tableB_iff xs).1 ht).1.1
  have hn10 : xs.length ≤ 10 := ((tableB_iff xs).1 ht).1.2
  have hA := allN_le (p := p) (q := q) (by omega) (by omega)
  have hS : (snL p q xs (bl y)).sum ≤ 1000000000000 := Nat.le_trans (sn_le ((tableB_iff xs).1 ht).2.1) (Nat.le_trans (Nat.mul_le_mul hn10 hA) (by decide))
  have hax : a = some ⟨b, o, none⟩ := h.src.1 (by have := ((tableB_iff xs).1 ht).1.1; omega)
  have G1 := Lib.hid fun (x : ByteArray) (W : World) (hx : x.size ≤ 5) => sParts_any p q e x y W he g1 g2 hx hy5
  have HMk := Lib.hid ((tableB_iff xs).1 ht).2.1
  have HLe : Hid (∀ k, (snL p q (xs.take k) (bl y)).sum ≤ 1000000000000) := Lib.hid fun k => Nat.le_trans (sn_take_le p q xs (bl y) k) hS
  have HSu := Lib.hid fun (k : Nat) (x : ByteArray) (hx : xs[k]? = some x) => sn_succ (p := p) (q := q) (y := bl y) hx
  have HFin : Hid (snL p q (xs.take xs.length) (bl y) = snL p q xs (bl y)) := Lib.hid (by rw [List.take_length])
  subst hax
  have HLi := Lib.hid h
  clear HC0 h ht he g1 g2 hy5 hA hS
  go_enter Try.func71, Try.ntmps71
  go_wp2
  go_loopw [8, 9, 10] (fun sv tv v wr => ∃ k r : Nat, v = .int .i64 k ∧ tv = .int .i64 r ∧ k ≤ xs.length ∧ wr.ownsRow (w.heap.size + 1 + 1) 3 1 sv k (ints (snL p q (xs.take k) (bl y))) ∧ Hid (r = (snL p q (xs.take k) (bl y)).sum) ∧ Hid (CarT w (some ⟨b, o, none⟩) b o c xs w.heap.size (w.heap.size + 1) (p : Int) (e : Int) wr)) (fun _ _ v _ => xs.length - (intOf v).toNat)
  case atStart => exact ⟨0, 0, rfl, rfl, Nat.zero_le _, M0.out, Lib.hid rfl, HC⟩
  case round =>
    clear M0 HSz HC
    obtain ⟨k, r, rfl, rfl, hk, hown, HRs, HCr⟩ := hrel
    obtain ⟨av, capv, rfl⟩ := row_form hown
    have l1 := HCr.out.tab
    by_cases hlt : k < xs.length
    · have hyk : xs[k]? = some xs[k] := List.getElem?_eq_getElem hlt
      have HYk := Lib.hid hyk
      have hx5 : xs[k].size ≤ 5 := by have := marks_len (HMk.out _ (List.getElem_mem hlt)); rw [bl_len] at this; exact this.2
      have hsu := HSu.out k _ hyk
      generalize xs[k] = x at hyk HYk hx5 hsu
      have GX := Lib.hid fun W => G1.out x W hx5
      have hle := HLe.out (k + 1)
      have HP := Lib.hid hsu
      have hs2 : (snL p q (xs.take (k + 1)) (bl y)).sum = (snL p q (xs.take k) (bl y)).sum + ptN p q (bl x) (bl y) := by rw [hsu, List.sum_append]; simp
      rw [hs2, ← HRs.out] at hle
      have HR2 : Hid (r + ptN p q (bl x) (bl y) = (snL p q (xs.take (k + 1)) (bl y)).sum) := Lib.hid (by rw [hs2, HRs.out])
      generalize ptN p q (bl x) (bl y) = t at GX HP HR2 hle
      generalize snL p q (xs.take k) (bl y) = pl at hown HP
      have hkx : k + 1 ≤ xs.length := by omega
      have j2 : (k : Int) + 1 ≤ 11 := by omega
      have j0 : (0 : Int) ≤ (k : Int) := by omega
      have j1 : (k : Int) < (xs.length : Int) := by omega
      have s0 : (0 : Int) ≤ (r : Int) := by omega
      have s1 : (r : Int) ≤ 1000000000000 := by omega
      have s2 : (0 : Int) ≤ (t : Int) := by omega
      have s3 : (t : Int) ≤ 1000000000000 := by omega
      have q1 : k + 1 ≤ maxLen := by unfold maxLen; omega
      have q2 : (k + 1) * 8 ≤ 140737488355328 := by omega
      have l2 := HCr.out.noi.cell0
      have l3 := HCr.out.noi.cell1
      have l5 := HCr.out.lst.src.2 k x HYk.out
      have HCd := Lib.hid HCr.out.drew
      have HBd : Hid (Below wr.heap.size wr wr.drew) := Lib.hid (Below.refl wr.heap.size wr).drew
      have HOw := Lib.hid hown
      have HLt : Hid (∀ z, (Value.slice av k capv).ownBlock = some z → w.heap.size + 1 + 1 ≤ z) := Lib.hid fun z e => (hown.lt z e).1
      have hsz : w.heap.size + 1 + 1 ≤ wr.heap.size := by have := HCr.out.low.2; omega
      clear hyk hx5 hn10 hown hsu hs2 hle HRs
      go_wp2
      go_region_held3 (fun w' => w'.cell? ⟨w.heap.size, 0, none⟩ = some (.slice (some ⟨b, o, none⟩) xs.length c) ∧ w'.cell? ⟨w.heap.size + 1, 0, none⟩ = some (.int .i64 (p : Int)) ∧ w'.cell? ⟨w.heap.size + 1, 1, none⟩ = some (.int .i64 (e : Int)) ∧ w'.cell? ⟨b, o + k, none⟩ = some (.string x))
        (first
          | exact ⟨HC4.out.tab, HC4.out.noi.cell0, HC4.out.noi.cell1, HC4.out.lst.src.2 k x HYk.out⟩
          | exact ⟨HCd.out.tab, HCd.out.noi.cell0, HCd.out.noi.cell1, HCd.out.lst.src.2 k x HYk.out⟩)
        ((first
          | (go_at_call 59; refine (GX.out _).mono ?_; rintro e w4 ⟨rfl, hb4⟩; have HC4 := Lib.hid (HCd.out.step hb4); have HB4 := Lib.hid (HBd.out.trans (hb4.mono HBd.out.size)); clear hb4)))
      have hown4 := row_below HOw.out HB4.out
      have hsz4 := Nat.le_trans hsz HB4.out.size
      clear l1 l2 l3 l5
      go_wp2_with (at_builtin; refine wpList_append_lies _ rfl _ _ 88 rfl (w.heap.size + 1 + 1) 3 i0 (.int .i64 0) 1 8 Try.underlying88 hi hz0 hz1 hz2 rfl (by decide) (.slice av k capv) k (ints pl) rfl (hown4.alloc _) ⟨w4.heap.size, 0, none⟩ 1 1 [.int .i64 (t : Int)] rfl rfl (cell_one_new _ _ _) (by simp [Value.oneCell']) (by decide) q1 q2 (Nat.le_trans hsz4 (below_alloc w4 _).size) (w4.heap.size + 1) (by simp) ?_; intro gg cg w7 hownN hgrow hat hgl)
      have HW7 : Hid (w7.ownsRow (w.heap.size + 1 + 1) 3 1 (.slice (some ⟨gg, 0, none⟩) (k + 1) cg) (k + 1) (ints (snL p q (xs.take (k + 1)) (bl y)))) := Lib.hid (by
        rw [HP.out, ints_snoc]
        exact hownN)
      have HC7 := Lib.hid ((HC4.out.step (below_alloc w4 _)).grow HLi.out ((Below.refl (w.heap.size + 1 + 1) _).grown hgrow (Nat.le_trans hsz4 (below_alloc w4 _).size) (fun z e => HLt.out z e)))
      clear hownN hgrow hat hgl hown4 hsz4 hsz q1 q2
      go_wp2
      go_roundw
      case rel => exact ⟨k + 1, r + t, by go_num, by go_num, hkx, HW7.out, HR2, HC7⟩
      case measure => simp [intOf]; omega
    · obtain rfl : k = xs.length := by omega
      have HE : Hid (r = (snL p q xs (bl y)).sum) := Lib.hid (by rw [HRs.out, HFin.out])
      have HOw := Lib.hid (HFin.out ▸ hown)
      clear hown HRs
      go_wp2
      go_ret2
      obtain ⟨a', g', c', hv, hs', hg', _⟩ := seq_of_row HOw.out
      exact ⟨a', g', c', by rw [← hv, ← HE.out]; rfl, hs', by have := hg' (by rw [ints_len, sn_len]; exact HN1.out); omega, HCr.out.below⟩

theorem srcV_kept {W W' : World} {a : Option Addr} {g : Nat} {vs : List Value} {row : Option Nat} (h : SrcV W a g vs) (hg : W.grownBy W' row) (hne : row ≠ some g) : SrcV W' a g vs :=
  ⟨h.1, fun j x hx => (World.cell?_of_block (w := W) (a := ⟨g, j, none⟩) (hg.block g (World.block_lt_of_cell? _ _ (h.2 j x hx)) (fun e => hne e.symm))).trans (h.2 j x hx)⟩
theorem frs_succ {D : Nat} {ps : List Nat} {k t : Nat} (h : ps[k]? = some t) : frs D (ps.take (k + 1)) = frs D (ps.take k) ++ [((cutN t D).1, (cutN t D).2)] := by
  unfold frs
  rw [List.take_add_one, h, List.map_append]; rfl

set_option maxHeartbeats 4000000 in
set_option maxRecDepth 20000 in
theorem sChancesSent_any (a : Option Addr) (b o c : Nat) (xs : List ByteArray) (N d : Int) (y : ByteArray) (w : World) (h : ListIn w a b o xs) (hy : y.size ≤ maxLen) :
    Calls Try.prog 34 #[.agg #[.slice a xs.length c], .agg #[.int .i64 N, .int .i64 d], .string y] w (SeqOut (prs (csL N d xs y)) (csL N d xs y).length (csOk N d xs y) w) := by
  obtain ⟨i0, hi, hz0, hz1, hz2⟩ := info_parts infoPair
  have HC0 := Lib.hid (carT_new w a b o c xs N d h)
  have HC := Lib.hid (HC0.out.step (below_alloc _ (Obj.cells #[] 28)))
  have F1 := Lib.hid fun W h => stable_any a b o c xs W h
  have F2 := Lib.hid fun W => sGood_any N d W
  have F3 := Lib.hid fun W => smarksB_any y W hy
  have l1 := HC.out.tab
  have l2 := HC.out.noi.cell0
  have l3 := HC.out.noi.cell1
  have HSz : Hid (((w.alloc (.cells #[.slice a xs.length c] 38)).alloc (.cells #[.int .i64 N, .int .i64 d] 25)).heap.size = w.heap.size + 1 + 1) := Lib.hid (by simp)
  have M0 : Hid ((((w.alloc (.cells #[.slice a xs.length c] 38)).alloc (.cells #[.int .i64 N, .int .i64 d] 25)).alloc (Obj.cells #[] 28)).ownsRow (w.heap.size + 1 + 1) 28 2 (.slice (some ⟨w.heap.size + 1 + 1, 0, none⟩) 0 0) 0 (prs [])) := Lib.hid (by
    have := World.ownsRow_made (base := w.heap.size + 1 + 1) (e := 28) (size := 2) ((w.alloc (.cells #[.slice a xs.length c] 38)).alloc (.cells #[.int .i64 N, .int .i64 d] 25)) #[] 0 (by rw [HSz.out]; exact Nat.le_refl _) (by unfold maxLen; omega) rfl
    rw [HSz.out] at this
    exact this)
  clear HC0
  cases ht : tableB xs with
  | false =>
    obtain ⟨e1, e2⟩ := cs_no (N := N) (d := d) (xs := xs) (y := y) (by unfold csB; rw [ht]; rfl)
    have F1 := Lib.hid fun W h => val_eqF (v' := .bool false) (F1.out W h) (by rw [ht])
    rw [e1, e2]
    clear ht h e1 e2
    go_enter Try.func34, Try.ntmps34
    go_wp2_with fail
    refine (F1.out _ HC.out.lst).mono ?_
    rintro e w1 ⟨rfl, hb⟩
    have HC1 := Lib.hid (HC.out.step hb)
    clear hb l1 l2 l3
    go_wp2
    go_ret2
    exact seqOut_nothingN HC1.out.below _ _
  | true =>
    have F1 := Lib.hid fun W h => val_eqF (v' := .bool true) (F1.out W h) (by rw [ht])
    cases hg : goodN N d with
    | false =>
      obtain ⟨e1, e2⟩ := cs_no (N := N) (d := d) (xs := xs) (y := y) (by unfold csB; rw [hg, Bool.and_false]; rfl)
      rw [e1, e2]
      rw [hg] at F2
      clear ht h hg e1 e2
      go_enter Try.func34, Try.ntmps34
      go_wp2_with fail
      refine (F1.out _ HC.out.lst).mono ?_
      rintro e w1 ⟨rfl, hb⟩
      have HC1 := Lib.hid (HC.out.step hb)
      have k0 := HC1.out.noi.cell0
      have k1 := HC1.out.noi.cell1
      clear hb l1 l2 l3
      go_wp2_with fail
      refine (F2.out _).mono ?_
      rintro e w2 ⟨rfl, hb⟩
      have HC2 := Lib.hid (HC1.out.step hb)
      clear hb k0 k1
      go_wp2
      go_ret2
      exact seqOut_nothingN HC2.out.below _ _
    | true =>
      rw [hg] at F2
      cases hm : marksL (bl y) with
      | false =>
        obtain ⟨e1, e2⟩ := cs_no (N := N) (d := d) (xs := xs) (y := y) (by unfold csB; rw [hm, Bool.and_false])
        rw [e1, e2]
        rw [hm] at F3
        clear ht h hg hm e1 e2
        go_enter Try.func34, Try.ntmps34
        go_wp2_with fail
        refine (F1.out _ HC.out.lst).mono ?_
        rintro e w1 ⟨rfl, hb⟩
        have HC1 := Lib.hid (HC.out.step hb)
        have k0 := HC1.out.noi.cell0
        have k1 := HC1.out.noi.cell1
        clear hb l1 l2 l3
        go_wp2_with fail
        refine (F2.out _).mono ?_
        rintro e w2 ⟨rfl, hb⟩
        have HC2 := Lib.hid (HC1.out.step hb)
        clear hb k0 k1
        go_wp2_with fail
        refine (F3.out _).mono ?_
        rintro e w3 ⟨rfl, hb⟩
        have HC3 := Lib.hid (HC2.out.step hb)
        clear hb
        go_wp2
        go_ret2
        exact seqOut_nothingN HC3.out.below _ _
      | true =>
        rw [hm] at F3
        obtain ⟨p, q, e, rfl, rfl, he, g1, g2, hN, hd⟩ := cs_yes (xs := xs) (y := y) hg
        have hv : csB (p : Int) (e : Int) xs y = true := by unfold csB; rw [ht, hg, hm]; rfl
        have hSd : csS (p : Int) (e : Int) xs y = (snL p q xs (bl y)).sum := by unfold csS; rw [hN, hd]
        have hOk : csOk (p : Int) (e : Int) xs y = decide (0 < (snL p q xs (bl y)).sum) := by unfold csOk; rw [hv, hSd, Bool.true_and]
        have hL : csL (p : Int) (e : Int) xs y = if 0 < (snL p q xs (bl y)).sum then frs (snL p q xs (bl y)).sum (snL p q xs (bl y)) else [] := by
          unfold csL
          rw [hOk, hSd, hN, hd]
          by_cases e1 : 0 < (snL p q xs (bl y)).sum
          · rw [if_pos e1, if_pos (by simpa using e1)]
          · rw [if_neg e1, if_neg (by simpa using e1)]
        rw [hL, hOk]
        have hy5 : y.size ≤ 5 := by have := marks_len hm; rw [bl_len] at this; exact this.2
        have hn := ((tableB_iff xs).1 ht).1
        have hA := allN_le (p := p) (q := q) (by omega) (by omega)
        have hS : (snL p q xs (bl y)).sum ≤ 1000000000000 := Nat.le_trans (sn_le ((tableB_iff xs).1 ht).2.1) (Nat.le_trans (Nat.mul_le_mul hn.2 hA) (by decide))
        have G := Lib.hid fun W (h : ListIn W a b o xs) => sSent_any a b o c xs p q e y W h ht he g1 g2 hy5
        have hpl : (snL p q xs (bl y)).length = xs.length := sn_len p q xs (bl y)
        have hin : ∀ k t, (snL p q xs (bl y))[k]? = some t → t ≤ (snL p q xs (bl y)).sum := fun k t hk => by
          have h1 := sum_take_succ hk
          have h2 := sum_take_le (snL p q xs (bl y)) (k + 1)
          omega
        have HLi := Lib.hid h
        generalize snL p q xs (bl y) = pl at *
        have HIn := Lib.hid hin
        have HPl := Lib.hid hpl
        clear ht hg hm hv hSd hOk hL hN hd he g1 g2 hy5 hA h hin hpl
        by_cases hS0 : 0 < pl.sum
        · have HD : Hid (decide (0 < pl.sum) = true) := Lib.hid (by simpa using hS0)
          rw [HD.out, if_pos hS0]
          have HFin : Hid (frs pl.sum (pl.take pl.length) = frs pl.sum pl) := Lib.hid (by rw [List.take_length])
          have GC := Lib.hid fun (t : Nat) (W : World) (ht : t ≤ pl.sum) => sCut_any t pl.sum W (by omega) hS0 (by omega)
          have HFl : Hid ((frs pl.sum pl).length = xs.length) := Lib.hid (by rw [frs_len]; exact HPl.out)
          rw [HFl.out]
          generalize hSS : pl.sum = S at *
          have t1 : (0 : Int) < (S : Int) := by omega
          have HSS := Lib.hid hSS
          clear hSS hS0
          go_enter Try.func34, Try.ntmps34
          go_wp2_with fail
          refine (F1.out _ HC.out.lst).mono ?_
          rintro e' w1 ⟨rfl, hb⟩
          have HC1 := Lib.hid (HC.out.step hb)
          have HO1 := Lib.hid (row_below M0.out hb)
          have k0 := HC1.out.noi.cell0
          have k1 := HC1.out.noi.cell1
          clear hb l1 l2 l3
          go_wp2_with fail
          refine (F2.out _).mono ?_
          rintro e' w2 ⟨rfl, hb⟩
          have HC2 := Lib.hid (HC1.out.step hb)
          have HO2 := Lib.hid (row_below HO1.out hb)
          clear hb k0 k1
          go_wp2_with fail
          refine (F3.out _).mono ?_
          rintro e' w3 ⟨rfl, hb⟩
          have HC3 := Lib.hid (HC2.out.step hb)
          have HO3 := Lib.hid (row_below HO2.out hb)
          have k0 := HC3.out.noi.cell0
          have k1 := HC3.out.noi.cell1
          have l1 := HC3.out.tab
          clear hb
          go_wp2_with fail
          refine (G.out _ HC3.out.lst).mono ?_
          rintro e' w4 ⟨a', g', c', rfl, hs', hg', hb⟩
          have HC4 := Lib.hid (HC3.out.step hb)
          have HO4 := Lib.hid (row_below HO3.out hb)
          have HS4 := Lib.hid hs'
          have HNe : Hid (w.heap.size + 1 + 1 ≠ g') := Lib.hid (by have := (HO3.out.lt (w.heap.size + 1 + 1) rfl).2; omega)
          clear hb k0 k1 l1 hs' hg'
          go_wp2
          go_loopw [8, 11] (fun sv v wr => ∃ k : Nat, v = .int .i64 k ∧ k ≤ xs.length ∧ wr.ownsRow (w.heap.size + 1 + 1) 28 2 sv k (prs (frs S (pl.take k))) ∧ Hid (sv.ownBlock ≠ some g') ∧ Hid (SrcV wr a' g' (ints pl)) ∧ Hid (CarT w a b o c xs w.heap.size (w.heap.size + 1) (p : Int) (e : Int) wr)) (fun _ v _ => xs.length - (intOf v).toNat)
          case atStart => exact ⟨0, rfl, Nat.zero_le _, HO4.out, Lib.hid (fun e => HNe.out (by injection e)), HS4, HC4⟩
          case round =>
            clear M0 HSz HC HO1 HO2 HO3 HO4 HC1 HC2 HC3 HC4 HS4 HNe
            obtain ⟨k, rfl, hk, hown, HOb, HSr, HCr⟩ := hrel
            obtain ⟨av, capv, rfl⟩ := row_form hown
            by_cases hlt : k < xs.length
            · have hkl : k < pl.length := by rw [HPl.out]; exact hlt
              have hpk : pl[k]? = some pl[k] := List.getElem?_eq_getElem hkl
              obtain rfl := HSr.out.1 (by rw [ints_len]; omega)
              have d1 := HSr.out.2 k _ (ints_at hkl)
              have HP := Lib.hid (frs_succ (D := S) hpk)
              have hin := HIn.out k _ hpk
              generalize pl[k] = t at d1 HP hin hpk
              have GT := Lib.hid fun W => GC.out t W hin
              generalize (cutN t S).1 = r1 at HP GT
              generalize (cutN t S).2 = r2 at HP GT
              generalize frs S (pl.take k) = fl at hown HP
              have hkx : k + 1 ≤ xs.length := by omega
              have j2 : (k : Int) + 1 ≤ 11 := by omega
              have j0 : (0 : Int) ≤ (k : Int) := by omega
              have j1 : (k : Int) < (xs.length : Int) := by omega
              obtain ⟨q1, q2⟩ := pairs_room k (by omega)
              have HOw := Lib.hid hown
              have HLt : Hid (∀ z, (Value.slice av k capv).ownBlock = some z → w.heap.size + 1 + 1 ≤ z) := Lib.hid fun z e => (hown.lt z e).1
              have hsz : w.heap.size + 1 + 1 ≤ wr.heap.size := by have := HCr.out.low.2; omega
              clear hpk hkl hown hin
              go_wp2_with fail
              refine (GT.out _).mono ?_
              rintro e' w5 ⟨rfl, hb⟩
              have HC5 := Lib.hid (HCr.out.step hb)
              have hown5 := row_below HOw.out hb
              have HS5 := Lib.hid (HSr.out.below hb)
              have hsz5 := Nat.le_trans hsz hb.size
              have HG5 : Hid (0 < (ints pl).length → g' < w5.heap.size) := Lib.hid (fun h => srcV_lt HS5.out h)
              have HPos : Hid (0 < (ints pl).length) := Lib.hid (by rw [ints_len, HPl.out]; omega)
              clear hb d1
              go_wp2_with (at_builtin; refine wpList_append_lies _ rfl _ _ 42 rfl (w.heap.size + 1 + 1) 28 i0 (.agg #[.int .i64 0, .int .i64 0]) 2 16 Try.underlying42 hi hz0 hz1 hz2 rfl (by decide) (.slice av k capv) k (prs fl) rfl (hown5.alloc _) ⟨w5.heap.size, 0, none⟩ 1 1 [.int .i64 (r1 : Int), .int .i64 (r2 : Int)] rfl rfl (cell_two_new _ _ _ _) (by simp [Value.oneCell']) (by decide) q1 q2 (Nat.le_trans hsz5 (below_alloc w5 _).size) (w5.heap.size + 1) (by simp) ?_; intro gg cg w6 hownN hgrow hat hgl)
              have HW6 : Hid (w6.ownsRow (w.heap.size + 1 + 1) 28 2 (.slice (some ⟨gg, 0, none⟩) (k + 1) cg) (k + 1) (prs (frs S (pl.take (k + 1))))) := Lib.hid (by
                rw [HP.out, prs_snoc]
                exact hownN)
              have HC6 := Lib.hid ((HC5.out.step (below_alloc w5 _)).grow HLi.out ((Below.refl (w.heap.size + 1 + 1) _).grown hgrow (Nat.le_trans hsz5 (below_alloc w5 _).size) (fun z e => HLt.out z e)))
              have HS6 := Lib.hid (srcV_kept (HS5.out.below (below_alloc w5 _)) hgrow HOb.out)
              have HOb6 : Hid ((Value.slice (some ⟨gg, 0, none⟩) (k + 1) cg).ownBlock ≠ some g') := Lib.hid (by
                intro e
                have e2 : gg = g' := by injection e
                rcases hat with e3 | e3
                · exact HOb.out (by rw [e3, e2])
                · have := HG5.out HPos.out; omega)
              clear hownN hgrow hat hgl hown5 hsz hsz5 q1 q2
              go_wp2
              go_roundw
              case rel => exact ⟨k + 1, by go_num, hkx, HW6.out, HOb6, HS6, HC6⟩
              case measure => simp [intOf]; omega
            · obtain rfl : k = xs.length := by omega
              have HOw := Lib.hid hown
              have HE : Hid (frs S (pl.take xs.length) = frs S pl) := Lib.hid (by rw [← HPl.out]; exact HFin.out)
              have HFi := Lib.hid (seqOut_row (W := w) (HE.out ▸ HOw.out) (by omega) HCr.out.below)
              have t3 : 0 < S := by omega
              clear hown
              go_wp2
              go_ret2
              first | exact HFi.out | (have h9 := HFi.out; simpa [t3] using h9)
        · have HD : Hid (decide (0 < pl.sum) = false) := Lib.hid (by simpa using hS0)
          rw [HD.out, if_neg hS0]
          obtain hSS : pl.sum = 0 := by omega
          rw [hSS] at G
          clear HIn hS hSS hS0 HD
          go_enter Try.func34, Try.ntmps34
          go_wp2_with fail
          refine (F1.out _ HC.out.lst).mono ?_
          rintro e' w1 ⟨rfl, hb⟩
          have HC1 := Lib.hid (HC.out.step hb)
          have k0 := HC1.out.noi.cell0
          have k1 := HC1.out.noi.cell1
          clear hb l1 l2 l3
          go_wp2_with fail
          refine (F2.out _).mono ?_
          rintro e' w2 ⟨rfl, hb⟩
          have HC2 := Lib.hid (HC1.out.step hb)
          clear hb k0 k1
          go_wp2_with fail
          refine (F3.out _).mono ?_
          rintro e' w3 ⟨rfl, hb⟩
          have HC3 := Lib.hid (HC2.out.step hb)
          have k0 := HC3.out.noi.cell0
          have k1 := HC3.out.noi.cell1
          have l1 := HC3.out.tab
          clear hb
          go_wp2_with fail
          refine (G.out _ HC3.out.lst).mono ?_
          rintro e' w4 ⟨a', g', c', rfl, hs', hg', hb⟩
          have HC4 := Lib.hid (HC3.out.step hb)
          clear hb k0 k1 l1 hs' hg'
          have t1 : (0 : Int) < (xs.length : Int) := by omega
          go_wp2
          go_loopw [8, 11] (fun sv v wr => v = .int .i64 0 ∧ sv = .slice (some ⟨w.heap.size + 1 + 1, 0, none⟩) 0 0 ∧ wr = w4) (fun _ v _ => xs.length - (intOf v).toNat)
          case atStart => exact ⟨rfl, rfl, rfl⟩
          case round =>
            obtain ⟨rfl, rfl, rfl⟩ := hrel
            go_wp2
            go_ret2
            exact seqOut_nothingN HC4.out.below _ _
end Go.Proofs.Ytomhjfjfmjacfaa
