/-
  ChanceUnread, the program's and the model's: both answer alike. Used by the claims on chapter 7.
-/
import Derived.Test.YtomhjfjfmjacfaaRtW
namespace Go.Proofs.Ytomhjfjfmjacfaa
open Go.RowKit
set_option linter.unusedVariables false

def cuR (N d : Int) (xs : List ByteArray) (i : Int) : (Nat × Nat) × Bool :=
  if ltrB N d xs i = true then (cutN (allN N.toNat (d - N).toNat - (ptsL N.toNat (d - N).toNat (bl (marksR xs i).1) xs).sum) (allN N.toNat (d - N).toNat), true) else ((0, 0), false)
theorem cuR_no {N d : Int} {xs : List ByteArray} {i : Int} (h : ltrB N d xs i = false) : cuR N d xs i = ((0, 0), false) := if_neg (by rw [h]; decide)
theorem cuR_yes {N d : Int} {xs : List ByteArray} {i : Int} {p q e : Nat} {x : ByteArray} (h : ltrB N d xs i = true) (hN : N = (p : Int)) (hd : d = (e : Int)) (he : e = p + q) (hx : marksR xs i = (x, true)) : cuR N d xs i = (cutN (allN p q - (ptsL p q (bl x) xs).sum) (allN p q), true) := by
  unfold cuR
  rw [if_pos h, hx, hN, hd, he]
  have e3 : (p : Int).toNat = p := by omega
  have e4 : (((p + q : Nat) : Int) - (p : Int)).toNat = q := by omega
  rw [e3, e4]
theorem pts_sum {p q : Nat} (h1 : 1 ≤ p + q) {x : ByteArray} {xs : List ByteArray} (ht : tableB xs = true) (hx : marksL (bl x) = true) : (ptsL p q (bl x) xs).sum ≤ allN p q := by
  have e : ptsL p q (bl x) xs = (xs.map bl).map (ptN p q (bl x)) := by unfold ptsL; rw [List.map_map]; rfl
  rw [e]
  obtain ⟨_, h2, h3⟩ := (tableB_iff xs).1 ht
  refine sum_pt h1 (marks_len hx).2 (marks_mk hx) (fun t ht' => ?_) ((nodup_bl xs).2 h3)
  obtain ⟨y, hy, rfl⟩ := List.mem_map.1 ht'
  exact marks_mk (h2 y hy)
theorem pts_succ {p q : Nat} {x : Bs} {xs : List ByteArray} {k : Nat} {y : ByteArray} (h : xs[k]? = some y) : (ptsL p q x (xs.take (k + 1))).sum = (ptsL p q x (xs.take k)).sum + ptN p q x (bl y) := by
  unfold ptsL
  rw [List.take_add_one, h]; simp
theorem pts_take_le (p q : Nat) (x : Bs) (xs : List ByteArray) (k : Nat) : (ptsL p q x (xs.take k)).sum ≤ (ptsL p q x xs).sum := by
  conv => rhs; rw [← List.take_append_drop k xs]
  unfold ptsL
  rw [List.map_append, List.sum_append]
  omega

set_option maxHeartbeats 4000000 in
set_option maxRecDepth 20000 in
theorem chanceUnread_any (a : Option Addr) (b o c : Nat) (xs : List ByteArray) (N d i : Int) (w : World) (h : ListIn w a b o xs) :
    Calls Try.prog 33 #[.agg #[.slice a xs.length c], .agg #[.int .i64 N, .int .i64 d], .int .i64 i] w fun e w' => e = .returned (.tuple #[.agg #[.int .i64 ((cuR N d xs i).1.1 : Int), .int .i64 ((cuR N d xs i).1.2 : Int)], .bool (cuR N d xs i).2]) ∧ Below w.heap.size w w' := by
  have HC0 := Lib.hid (carT_new w a b o c xs N d h)
  have HC := Lib.hid (HC0.out.step (below_alloc _ (.cells #[.int .i64 0, .int .i64 0] 28)))
  have HT := Lib.hid (res_new w (.cells #[.slice a xs.length c] 38) (.cells #[.int .i64 N, .int .i64 d] 25))
  have F1 := Lib.hid fun W h => readTable_any a b o c xs N d i W h
  have l1 := HC.out.tab
  have l2 := HC.out.noi.cell0
  have l3 := HC.out.noi.cell1
  have l4 := load_noi HC.out.noi
  clear HC0 h
  cases hl : ltrB N d xs i with
  | false =>
    have HR := Lib.hid (cuR_no hl)
    rw [HR.out]
    rw [hl] at F1
    clear hl
    go_enter Try.func33, Try.ntmps33
    go_wp2_with fail
    refine (F1.out _ HC.out.lst).mono ?_
    rintro e w1 ⟨a1, q1, c1, rfl, hs1, _, _, hb⟩
    have HC1 := Lib.hid (HC.out.step hb)
    have HT2 := Lib.hid (HT.out.below hb)
    have f0 := HT2.out.frozen 0
    have f1 := HT2.out.frozen 1
    have k0 := HT2.out.cell0
    have k1 := HT2.out.cell1
    clear hb l1 l2 l3 l4 hs1
    go_wp2
    refine bodyPost_ret (res_two rfl _ rfl ((HT2.out.set0 _).set1 _)) rfl ?_
    exact ⟨rfl, (HC1.out.below.setCell (p := ⟨w.heap.size + 1 + 1, 0, none⟩) (by simp; omega) _).setCell (p := ⟨w.heap.size + 1 + 1, 1, none⟩) (by simp; omega) _⟩
  | true =>
    rw [hl] at F1
    obtain ⟨p, q, e, x, rfl, rfl, he, g1, g2, ht, _, hmr, hmx, hrt⟩ := rt_yes hl
    rw [cuR_yes hl rfl rfl he hmr]
    rw [hrt, ← frs_pts] at F1
    have hS := pts_sum (p := p) (q := q) (by omega) ht hmx
    have hA := allN_le (p := p) (q := q) (by omega) (by omega)
    have hA0 := allN_pos (p := p) (q := q) (by omega)
    have hn10 : xs.length ≤ 10 := ((tableB_iff xs).1 ht).1.2
    have hpl : (ptsL p q (bl x) xs).length = xs.length := by unfold ptsL; rw [List.length_map]
    have HLn : Hid ((frs (allN p q) (ptsL p q (bl x) xs)).length = (ptsL p q (bl x) xs).length) := Lib.hid (frs_len _ _)
    rw [HLn.out] at F1
    generalize ptsL p q (bl x) xs = ps at *
    generalize allN p q = D at *
    have G := Lib.hid fun (a' : Option Addr) (g' c' : Nat) (W : World) (hs : SrcV W a' g' (prs (frs D ps))) => sumOf_any a' g' ps.length c' D ps W rfl hs hA0 hA (by omega) (by omega)
    have hc := cut_le (a := ps.sum) (b := D) hS
    have hc2 := cut_le2 ps.sum D
    have HV := Lib.hid (cut_rest (a := ps.sum) hA0 hS)
    have R := Lib.hid fun W => rest_any (cutN ps.sum D).1 (cutN ps.sum D).2 W hc (by omega)
    rw [← HV.out]
    generalize (cutN ps.sum D).1 = r1 at *
    generalize (cutN ps.sum D).2 = r2 at *
    obtain ⟨r3, hr3⟩ : ∃ r3, r2 - r1 = r3 := ⟨_, rfl⟩
    rw [hr3] at R ⊢
    clear hl he g1 g2 ht hmr hmx hrt hS hA hA0 hn10 hpl HLn hc hc2 HV hr3
    go_enter Try.func33, Try.ntmps33
    go_wp2_with fail
    refine (F1.out _ HC.out.lst).mono ?_
    rintro e w1 ⟨a1, q1, c1, rfl, hs1, _, _, hb⟩
    have HC1 := Lib.hid (HC.out.step hb)
    have HT1 := Lib.hid (HT.out.below hb)
    have HS1 := Lib.hid hs1
    clear hb l1 l2 l3 l4 hs1
    go_wp2_with fail
    refine (G.out a1 q1 c1 _ HS1.out).mono ?_
    rintro e w2 ⟨rfl, hb⟩
    have HC2 := Lib.hid (HC1.out.step hb)
    have HT2 := Lib.hid (HT1.out.below hb)
    clear hb
    go_wp2_with fail
    refine (R.out _).mono ?_
    rintro e w3 ⟨rfl, hb⟩
    have HC3 := Lib.hid (HC2.out.step hb)
    have HT3 := Lib.hid (HT2.out.below hb)
    have f0 := HT3.out.frozen 0
    have f1 := HT3.out.frozen 1
    have k0 := HT3.out.cell0
    have k1 := HT3.out.cell1
    clear hb
    go_wp2
    refine bodyPost_ret (res_two rfl _ rfl ((HT3.out.set0 _).set1 _)) rfl ?_
    exact ⟨rfl, (HC3.out.below.setCell (p := ⟨w.heap.size + 1 + 1, 0, none⟩) (by simp; omega) _).setCell (p := ⟨w.heap.size + 1 + 1, 1, none⟩) (by simp; omega) _⟩

/-! ### The model's -/
set_option maxHeartbeats 4000000 in
set_option maxRecDepth 20000 in
theorem sChanceUnread_any (a : Option Addr) (b o c : Nat) (xs : List ByteArray) (N d i : Int) (w : World) (h : ListIn w a b o xs) :
    Calls Try.prog 32 #[.agg #[.slice a xs.length c], .agg #[.int .i64 N, .int .i64 d], .int .i64 i] w fun e w' => e = .returned (.tuple #[.agg #[.int .i64 ((cuR N d xs i).1.1 : Int), .int .i64 ((cuR N d xs i).1.2 : Int)], .bool (cuR N d xs i).2]) ∧ Below w.heap.size w w' := by
  have HC0 := Lib.hid (carT_new w a b o c xs N d h)
  have HC := Lib.hid (HC0.out.step (below_alloc _ (.cells #[.int .i64 0, .int .i64 0] 28)))
  have HT := Lib.hid (res_new w (.cells #[.slice a xs.length c] 38) (.cells #[.int .i64 N, .int .i64 d] 25))
  have F1 := Lib.hid fun W h => sLetter_any a b o c xs N d i W h
  have l1 := HC.out.tab
  have l2 := HC.out.noi.cell0
  have l3 := HC.out.noi.cell1
  have l4 := load_noi HC.out.noi
  clear HC0
  cases hl : ltrB N d xs i with
  | false =>
    have HR := Lib.hid (cuR_no hl)
    rw [HR.out]
    rw [hl] at F1
    clear hl h
    go_enter Try.func32, Try.ntmps32
    go_wp2_with fail
    refine (F1.out _ HC.out.lst).mono ?_
    rintro e w1 ⟨rfl, hb⟩
    have HC1 := Lib.hid (HC.out.step hb)
    have HT2 := Lib.hid (HT.out.below hb)
    have f0 := HT2.out.frozen 0
    have f1 := HT2.out.frozen 1
    have k0 := HT2.out.cell0
    have k1 := HT2.out.cell1
    clear hb l1 l2 l3 l4
    go_wp2
    refine bodyPost_ret (res_two rfl _ rfl ((HT2.out.set0 _).set1 _)) rfl ?_
    exact ⟨rfl, (HC1.out.below.setCell (p := ⟨w.heap.size + 1 + 1, 0, none⟩) (by simp; omega) _).setCell (p := ⟨w.heap.size + 1 + 1, 1, none⟩) (by simp; omega) _⟩
  | true =>
    rw [hl] at F1
    obtain ⟨p, q, e, x, rfl, rfl, he, g1, g2, ht, ⟨i', rfl, hxi⟩, hmr, hmx, hrt⟩ := rt_yes hl
    rw [cuR_yes hl rfl rfl he hmr]
    have hS := pts_sum (p := p) (q := q) (by omega) ht hmx
    have hA := allN_le (p := p) (q := q) (by omega) (by omega)
    have hA0 := allN_pos (p := p) (q := q) (by omega)
    have hn10 : xs.length ≤ 10 := ((tableB_iff xs).1 ht).1.2
    have hil : i' < xs.length := (List.getElem?_eq_some_iff.1 hxi).1
    have hax : a = some ⟨b, o, none⟩ := h.src.1 (by omega)
    have hx5 : x.size ≤ 5 := by have := marks_len hmx; rw [bl_len] at this; exact this.2
    have G1 := Lib.hid fun (y : ByteArray) (W : World) (hy : y.size ≤ 5) => sParts_any p q e x y W he g1 g2 hx5 hy
    have G2 := Lib.hid fun W => sAll_any p q e W he g2
    have HMk := Lib.hid ((tableB_iff xs).1 ht).2.1
    have HSu := Lib.hid fun (k : Nat) (y : ByteArray) (hy : xs[k]? = some y) => pts_succ (p := p) (q := q) (x := bl x) hy
    have HLe := Lib.hid fun k => Nat.le_trans (pts_take_le p q (bl x) xs k) hS
    have HFin : Hid (ptsL p q (bl x) (xs.take xs.length) = ptsL p q (bl x) xs) := Lib.hid (by rw [List.take_length])
    have G3 := Lib.hid fun W => sCut_any (allN p q - (ptsL p q (bl x) xs).sum) (allN p q) W (by omega) hA0 (by omega)
    generalize (cutN (allN p q - (ptsL p q (bl x) xs).sum) (allN p q)).1 = r1 at G3 ⊢
    generalize (cutN (allN p q - (ptsL p q (bl x) xs).sum) (allN p q)).2 = r2 at G3 ⊢
    have hA1 : (allN p q : Int) ≤ 10000000000 := by omega
    have HXi := Lib.hid hxi
    have i0 : (0 : Int) ≤ (i' : Int) := by omega
    have i1 : (i' : Int) < (xs.length : Int) := by omega
    have HS0 : Hid ((ptsL p q (bl x) (xs.take 0)).sum = 0) := Lib.hid (by simp [ptsL])
    generalize allN p q = D at *
    subst hax
    have b3 : w.heap.size + 1 + 1 ≠ b := by have := World.block_lt_of_cell? _ _ (h.src.2 i' x hxi); have h3 : b < w.heap.size := this; omega
    have b1 : w.heap.size + 1 + 1 ≠ w.heap.size := by omega
    have b2 : w.heap.size + 1 + 1 ≠ w.heap.size + 1 := by omega
    clear hl h he g1 g2 ht hmr hmx hrt hS hA0 hxi hil hx5
    go_enter Try.func32, Try.ntmps32
    go_wp2_with fail
    refine (F1.out _ HC.out.lst).mono ?_
    rintro e w1 ⟨rfl, hb⟩
    have HC1 := Lib.hid (HC.out.step hb)
    have HT1 := Lib.hid (HT.out.below hb)
    have k0 := HC1.out.noi.cell0
    have k1 := HC1.out.noi.cell1
    clear hb l1 l2 l3 l4
    go_wp2_with fail
    refine (G2.out _).mono ?_
    rintro e w2 ⟨rfl, hb⟩
    have HC2 := Lib.hid (HC1.out.step hb)
    have HT2 := Lib.hid (HT1.out.below hb)
    clear hb k0 k1
    go_wp2
    go_loopw [8, 9] (fun sv v wr => ∃ k r : Nat, v = .int .i64 k ∧ sv = .int .i64 r ∧ k ≤ xs.length ∧ Hid (r + (ptsL p q (bl x) (xs.take k)).sum = D) ∧ Hid (CarT w (some ⟨b, o, none⟩) b o c xs w.heap.size (w.heap.size + 1) (p : Int) (e : Int) wr) ∧ Hid (Two wr (w.heap.size + 1 + 1) 0 0)) (fun _ v _ => xs.length - (intOf v).toNat)
    case atStart => exact ⟨0, D, rfl, rfl, Nat.zero_le _, Lib.hid (by have := HS0.out; omega), HC2, HT2⟩
    case round =>
      clear HC2 HT2
      obtain ⟨k, r, rfl, rfl, hk, HRs, HCr, HTr⟩ := hrel
      have l1 := HCr.out.tab
      by_cases hlt : k < xs.length
      · have hyk : xs[k]? = some xs[k] := List.getElem?_eq_getElem hlt
        have HYk := Lib.hid hyk
        have hy5 : xs[k].size ≤ 5 := by have := marks_len (HMk.out _ (List.getElem_mem hlt)); rw [bl_len] at this; exact this.2
        have hsu := HSu.out k _ hyk
        have hle := HLe.out (k + 1)
        generalize xs[k] = y at hyk HYk hy5 hsu
        have GY := Lib.hid fun W => G1.out y W hy5
        have hrs := HRs.out
        rw [hsu] at hle
        have hrp : (r : Int) - ((ptN p q (bl x) (bl y) : Nat) : Int) = ((r - ptN p q (bl x) (bl y) : Nat) : Int) := by omega
        have HR2 : Hid (r - ptN p q (bl x) (bl y) + (ptsL p q (bl x) (xs.take (k + 1))).sum = D) := Lib.hid (by rw [hsu]; omega)
        have hr2 : r - ptN p q (bl x) (bl y) ≤ 10000000000 := by omega
        generalize ptN p q (bl x) (bl y) = t at *
        generalize r - t = r' at *
        have j0 : (0 : Int) ≤ (k : Int) := by omega
        have j1 : (k : Int) < (xs.length : Int) := by omega
        have hkx : k + 1 ≤ xs.length := by omega
        have j2 : (k : Int) + 1 ≤ 11 := by omega
        obtain ⟨m1, m2⟩ := wrap_nat r' (by omega)
        have l2 := HCr.out.noi.cell0
        have l3 := HCr.out.noi.cell1
        have l4 := HCr.out.lst.src.2 i' x HXi.out
        have l5 := HCr.out.lst.src.2 k y HYk.out
        have HCd := Lib.hid HCr.out.drew
        have HTd : Hid (Two wr.drew (w.heap.size + 1 + 1) 0 0) := Lib.hid HTr.out
        clear hrs hle hsu hr2 hyk hy5 hA hA1 hn10
        go_wp2
        go_region_held3 (fun w' => w'.cell? ⟨w.heap.size, 0, none⟩ = some (.slice (some ⟨b, o, none⟩) xs.length c) ∧ w'.cell? ⟨w.heap.size + 1, 0, none⟩ = some (.int .i64 (p : Int)) ∧ w'.cell? ⟨w.heap.size + 1, 1, none⟩ = some (.int .i64 (e : Int)) ∧ w'.cell? ⟨b, o + i', none⟩ = some (.string x) ∧ w'.cell? ⟨b, o + k, none⟩ = some (.string y))
          (first
            | exact ⟨HC4.out.tab, HC4.out.noi.cell0, HC4.out.noi.cell1, HC4.out.lst.src.2 i' x HXi.out, HC4.out.lst.src.2 k y HYk.out⟩
            | exact ⟨HCd.out.tab, HCd.out.noi.cell0, HCd.out.noi.cell1, HCd.out.lst.src.2 i' x HXi.out, HCd.out.lst.src.2 k y HYk.out⟩)
          ((first
            | (go_at_call 59; refine (GY.out _).mono ?_; rintro e w4 ⟨rfl, hb4⟩; have HC4 := Lib.hid (HCd.out.step hb4); have HT4 := Lib.hid (HTd.out.below hb4))))
        go_wp2
        go_roundw
        case rel => exact ⟨k + 1, r', by go_num, rfl, hkx, HR2, HC4, HT4⟩
        case measure => simp [intOf]; omega
      · obtain rfl : k = xs.length := by omega
        have HE : Hid (r = D - (ptsL p q (bl x) xs).sum) := Lib.hid (by have := HRs.out; rw [HFin.out] at this; omega)
        have G3 := Lib.hid fun W => (HE.out ▸ G3.out W : Calls Try.prog 58 #[.int .i64 (r : Int), .int .i64 (D : Int)] W fun e w' => e = .returned (.agg #[.int .i64 (r1 : Int), .int .i64 (r2 : Int)]) ∧ Below W.heap.size W w')
        have k0 := HCr.out.noi.cell0
        have k1 := HCr.out.noi.cell1
        go_wp2_with fail
        refine (G2.out _).mono ?_
        rintro e w4 ⟨rfl, hb⟩
        have HC4 := Lib.hid (HCr.out.step hb)
        have HT4 := Lib.hid (HTr.out.below hb)
        clear hb k0 k1 l1
        go_wp2_with fail
        refine (G3.out _).mono ?_
        rintro e w5 ⟨rfl, hb⟩
        have HC5 := Lib.hid (HC4.out.step hb)
        have HT5 := Lib.hid (HT4.out.below hb)
        have f0 := HT5.out.frozen 0
        have f1 := HT5.out.frozen 1
        have k0 := HT5.out.cell0
        have k1 := HT5.out.cell1
        clear hb
        go_wp2
        refine bodyPost_ret (res_two rfl _ rfl ((HT5.out.set0 _).set1 _)) rfl ?_
        exact ⟨rfl, (HC5.out.below.setCell (p := ⟨w.heap.size + 1 + 1, 0, none⟩) (by simp; omega) _).setCell (p := ⟨w.heap.size + 1 + 1, 1, none⟩) (by simp; omega) _⟩

theorem chanceUnread_both (xs : List ByteArray) (N d i : Int) (hl : xs.length ≤ 1048576) (ht : ∀ x ∈ xs, x.size ≤ 1048576) : ∃ (R0 R2 : Int) (R1 : Bool),
    Hid (∀ W a b o c, ListIn W a b o xs → Calls Try.prog 32 #[.agg #[.slice a xs.length c], .agg #[.int .i64 N, .int .i64 d], .int .i64 i] W fun e W' => e = .returned (.tuple #[.agg #[.int .i64 R0, .int .i64 R2], .bool R1]) ∧ Below W.heap.size W W') ∧
    Hid (∀ W a b o c, ListIn W a b o xs → Calls Try.prog 33 #[.agg #[.slice a xs.length c], .agg #[.int .i64 N, .int .i64 d], .int .i64 i] W fun e W' => e = .returned (.tuple #[.agg #[.int .i64 R0, .int .i64 R2], .bool R1]) ∧ Below W.heap.size W W') :=
  ⟨_, _, _, fun W a b o c h => sChanceUnread_any a b o c xs N d i W h, fun W a b o c h => chanceUnread_any a b o c xs N d i W h⟩
end Go.Proofs.Ytomhjfjfmjacfaa
