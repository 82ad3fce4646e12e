/-
  The model's l2Own; a row of texts of the call's own, whatever lies behind it; SwapsToBest of the model: both answer alike. Used by the claims on chapter 8.
-/
import Derived.Test.YtfnklfpcmgjfjaaSwtW
import Derived.Laws.OwnMore
import Derived.Deep.AppendLies
namespace Go.Proofs.Ytfnklfpcmgjfjaa
open Go.RowKit
set_option linter.unusedVariables false

theorem ownS_any (b o c : Nat) (xs : List ByteArray) (w : World) (hl : xs.length ≤ 1000) (hc : ∀ (j : Nat) x, xs[j]? = some x → w.cell? ⟨b, o + j, none⟩ = some (.string x)) :
    Calls Try.prog 63 #[.slice (some ⟨b, o, none⟩) xs.length c] w fun e w' => ∃ v', e = .returned v' ∧ w'.ownsRow w.heap.size 9 1 v' xs.length ((xs.take xs.length).map Value.string) ∧ True ∧ Below w.heap.size w w' := by
  obtain ⟨i0, hi, hz0, hz1, hz2⟩ := info_parts infoStr
  have hm0 : (w.alloc (Obj.cells #[] 9)).ownsRow w.heap.size 9 1 (.slice (some ⟨w.heap.size, 0, none⟩) 0 0) 0 [] := World.ownsRow_made w #[] 0 (Nat.le_refl _) (by unfold maxLen; omega) rfl
  have hcc : ∀ j u, (xs.map Value.string)[j]? = some u → (w.alloc (Obj.cells #[] 9)).cell? ((⟨b, o, none⟩ : Addr).add j) = some u := fun j u hu => by
    rw [List.getElem?_map] at hu
    cases hx : xs[j]? with
    | none => rw [hx] at hu; cases hu
    | some x =>
      rw [hx] at hu
      cases hu
      rw [Addr.add_lit]
      exact keep_cell w _ (hc j x hx)
  have HO := Lib.hid hm0
  have HC := Lib.hid hcc
  clear hm0 hcc hc
  go_enter Try.func63, Try.ntmps63
  go_wp2_with (at_builtin; refine wpList_append_own _ rfl _ _ 22 rfl w.heap.size 9 i0 (.string ByteArray.empty) 1 16 Try.underlying22 hi hz0 hz1 hz2 rfl (by decide) _ _ _ rfl HO.out ⟨b, o, none⟩ xs.length c (xs.map Value.string) rfl (by simp) HC.out (by intro x hx; obtain ⟨y, _, rfl⟩ := List.mem_map.1 hx; rfl) (by unfold maxLen; omega) (by omega) (by simp) ?_; intro v' w1 hown' hgrow _)
  have HW : Hid (w1.ownsRow w.heap.size 9 1 v' xs.length ((xs.take xs.length).map Value.string)) := Lib.hid (by rw [List.take_length]; simpa using hown')
  have HB := Lib.hid ((below_alloc w (.cells #[] 9)).grown hgrow (by simp) (fun j e => (HO.out.lt j e).1))
  clear hown' hgrow
  go_ret
  exact ⟨v', rfl, HW.out, trivial, HB.out⟩

theorem rowS_src {w : World} {base : Nat} {v : Value} {ys : List ByteArray} (h : w.ownsRow base 9 1 v ys.length (ys.map Value.string)) (h0 : 0 < ys.length) : ∃ g cap, v = .slice (some ⟨g, 0, none⟩) ys.length cap ∧ base ≤ g ∧ g < w.heap.size ∧ Src w (some ⟨g, 0, none⟩) g 0 ys ∧ Open w g ys.length := by
  have h' := h
  rcases h.2 with ⟨_, h1⟩ | ⟨g, cap, cur, rfl, hg, hh, _⟩
  · omega
  · refine ⟨g, cap, rfl, hg, (Array.getElem?_eq_some_iff.1 hh).1, ⟨fun _ => rfl, fun j x hx => ?_⟩, fun j _ => by simp [World.frozen?, hh]⟩
    have := h'.cells (g := g) rfl j (.string x) (by simp [hx])
    rw [Addr.add_lit] at this
    exact this

/-- A row of texts: its cells, open. -/
structure RowO (wr : World) (B : Nat) (ys : List ByteArray) : Prop where
  cell : ∀ k, k < ys.length → wr.cell? ⟨B, k, none⟩ = some (.string (ys.getD k ⟨#[]⟩))
  opn : ∀ k, k < ys.length → wr.frozen? ⟨B, k, none⟩ = false
  lt : B < wr.heap.size
theorem RowO.src {wr : World} {B : Nat} {ys : List ByteArray} (h : RowO wr B ys) : Src wr (some ⟨B, 0, none⟩) B 0 ys :=
  ⟨fun _ => rfl, fun j x hx => by
    have hj : j < ys.length := (List.getElem?_eq_some_iff.1 hx).1
    have := h.cell j hj
    rw [List.getD_eq_getElem?_getD, hx] at this
    rw [Nat.zero_add]; exact this⟩
theorem RowO.below {w w' : World} {B : Nat} {ys : List ByteArray} (h : RowO w B ys) (hb : Below w.heap.size w w') : RowO w' B ys :=
  ⟨fun k hk => (hb.cell (p := ⟨B, k, none⟩) h.lt).trans (h.cell k hk), fun k hk => (hb.frozen (p := ⟨B, k, none⟩) h.lt).trans (h.opn k hk), Nat.lt_of_lt_of_le h.lt hb.size⟩
theorem RowO.sw {wr : World} {B i j : Nat} {ys : List ByteArray} (h : RowO wr B ys) (hi : i < ys.length) (hj : j < ys.length) :
    RowO ((wr.setCell ⟨B, i, none⟩ (.string (ys.getD j ⟨#[]⟩))).setCell ⟨B, j, none⟩ (.string (ys.getD i ⟨#[]⟩))) B (sw2 ys i j) := by
  have c1 : ∀ k, k < ys.length → (wr.setCell ⟨B, i, none⟩ (.string (ys.getD j ⟨#[]⟩))).cell? ⟨B, k, none⟩ = some (.string (if k = i then ys.getD j ⟨#[]⟩ else ys.getD k ⟨#[]⟩)) := fun k hk => by
    by_cases e : k = i
    · subst e
      rw [World.cell?_setCell_same' _ _ _ (by rw [h.cell k hk]; rfl), if_pos rfl]
    · rw [World.cell?_setCell_other _ _ _ _ (by intro e2; cases e2; exact e rfl), if_neg e]; exact h.cell k hk
  refine ⟨fun k hk => ?_, fun k hk => ?_, by simpa [World.setCell] using h.lt⟩
  · rw [sw2_len] at hk
    rw [sw2_at hi hj hk]
    by_cases e : k = j
    · subst e
      rw [World.cell?_setCell_same' _ _ _ (by rw [c1 k hk]; rfl), if_pos rfl]
    · rw [World.cell?_setCell_other _ _ _ _ (by intro e2; cases e2; exact e rfl), if_neg e]; exact c1 k hk
  · rw [sw2_len] at hk
    rw [World.frozen?_setCell, World.frozen?_setCell]
    exact h.opn k hk
theorem rowO_of_row {w : World} {base B cap : Nat} {n : Nat} {ys : List ByteArray} (h : w.ownsRow base 9 1 (.slice (some ⟨B, 0, none⟩) n cap) n (ys.map Value.string)) : RowO w B ys ∧ base ≤ B := by
  obtain ⟨g, c', e, hs, hb, hf, _⟩ := seq_of_row2 h (by intro e; cases e)
  cases e
  refine ⟨⟨fun k hk => ?_, fun k hk => hf k (by simpa using hk), ?_⟩, hb⟩
  · exact hs.2 k _ (by rw [List.getElem?_map, List.getElem?_eq_getElem hk, List.getD_eq_getElem?_getD, List.getElem?_eq_getElem hk]; rfl)
  · exact (h.lt B rfl).2
structure SwJo (w wr : World) (B : Nat) (n : Nat) (m : List Nat) (k f R : Nat) (ys : List ByteArray) : Prop where
  row : RowO wr B ys
  len : ys.length = n
  below : Below w.heap.size w wr
  mks : ∀ y ∈ ys, marksL (bl y) = true
  cost : cst (uAt m) (tAt ys) ys.length ≤ f
  cnt : k + swF (uAt m) f ys = R

set_option maxHeartbeats 8000000 in
set_option maxRecDepth 100000 in
theorem sSwapsYes_any (a : Option Addr) (b o c : Nat) (xs : List ByteArray) (a1 : Option Addr) (g1 c1 : Nat) (m : List Nat) (w : World) (h : ListIn w a b o xs) (hs : SrcV w a1 g1 (intz (zs m))) (ht : tableB xs = true) (hm : IsWt m) (hl : m.length = xs.length) (hf : fitB xs (zs m) = true) (R F0 : Nat) (hR : R = swF (uAt m) F0 xs) (hF : F0 = cst (uAt m) (tAt xs) xs.length) :
    Calls Try.prog 45 #[.agg #[.slice a xs.length c], .slice a1 xs.length c1] w fun e w' => e = .returned (.tuple #[.int .i64 (R : Nat), .bool true]) ∧ Below w.heap.size w w' := by
  have hn := ((tableB_iff xs).1 ht).1
  have hn10 := hn.2
  have hn1 := hn.1
  have hzl : (zs m).length = xs.length := by rw [zs_len]; exact hl
  have F := Lib.hid fun W hb => val_eq (v' := .bool true) (sFits_any a b o c xs a1 g1 c1 (zs m) W (h.below (w' := W) hb) (hs.below hb) (by rw [zs_len]; omega)) (by rw [hf])
  rw [hzl] at F
  have HM := Lib.hid ((tableB_iff xs).1 ht).2.1
  have HF0 : F0 ≤ 20000 := by
    have := cst_le (u := uAt m) (t := tAt xs) xs.length (fun k _ => uAt_le hm k) (fun k hk => (tAt_le ht k hk).2)
    omega
  have HCo : Hid (cst (uAt m) (tAt xs) xs.length ≤ F0) := Lib.hid (by omega)
  have HR := Lib.hid hR
  have G := Lib.hid fun (W : World) (B cap : Nat) (ys : List ByteArray) (hb : Below w.heap.size w W) (hy : RowO W B ys) (hyl : ys.length = xs.length) (hmk : ∀ y ∈ ys, marksL (bl y) = true) => sSwap_any (some ⟨B, 0, none⟩) B 0 cap ys a1 g1 c1 m W hy.src (hs.below hb) hmk hm (by rw [hyl]; exact hl)
  have HK := Lib.hid (cell_new w (.slice a xs.length c) 29)
  have HL := Lib.hid hl
  obtain rfl := h.src.1 (by omega)
  have FO := Lib.hid fun W (hb : Below w.heap.size w W) => ownS_any b o c xs W (by omega) (h.below (w' := W) hb).src.2
  clear h hs ht hm hl hn hf hR hF hzl
  go_enter Try.func45, Try.ntmps45
  go_wp2_with fail
  refine (F.out _ (below_alloc _ _)).mono ?_
  rintro e w1 ⟨rfl, hb⟩
  have HB := Lib.hid ((below_alloc w (.cells #[.slice (some ⟨b, o, none⟩) xs.length c] 29)).trans (hb.mono (by simp)))
  have hc := (hb.cell (p := ⟨w.heap.size, 0, none⟩) (by simp)).trans HK.out
  clear hb
  go_wp2_with fail
  refine (FO.out _ HB.out).mono ?_
  rintro e w2 ⟨v2, rfl, hown, _, hb⟩
  rw [List.take_length] at hown
  obtain ⟨B, cap, rfl, hB1, hB2⟩ := hown.form (by omega)
  have HJ0 : Hid (SwJo w w2 B xs.length m 0 F0 R xs) := Lib.hid ⟨(rowO_of_row hown).1, rfl, HB.out.trans (hb.mono HB.out.size), HM.out, HCo.out, by rw [HR.out, Nat.zero_add]⟩
  have hB : w.heap.size ≤ B := by have := HB.out.size; omega
  clear hb hown hB1 hB2 hc
  go_wp2
  go_loopw [7] (fun v wr => ∃ (k f : Nat) (ys : List ByteArray), v = .int .i64 k ∧ k + f = F0 ∧ Hid (SwJo w wr B xs.length m k f R ys)) (fun v _ => F0 - (intOf v).toNat)
  case atStart => exact ⟨0, F0, xs, rfl, Nat.zero_add _, HJ0⟩
  case round =>
    clear HJ0
    obtain ⟨k, f, ys, rfl, hkf, HJ⟩ := hrel
    have hyl := HJ.out.len
    have hysp : 0 < ys.length := by omega
    obtain ⟨ri, rj, rz, hR2⟩ : ∃ ri rj rz, swR (uAt m) (tAt ys) ys.length = ((ri, rj), rz) := ⟨_, _, _, rfl⟩
    have HG := Lib.hid (G.out wr B cap ys HJ.out.below HJ.out.row HJ.out.len HJ.out.mks)
    rw [hR2] at HG
    rw [HL.out, hyl] at HG
    by_cases hz : rz = 0
    · have HE : Hid (R = k) := Lib.hid (by
        have := HJ.out.cnt
        rw [swF_end (by rw [hR2]; exact hz)] at this
        omega)
      subst hz
      clear hR2 hyl hysp
      go_wp2_with fail
      refine HG.out.mono ?_
      rintro e w3 ⟨rfl, hb⟩
      have HBe := Lib.hid ((HJ.out.below.trans (hb.mono HJ.out.below.size)).alloc (by have := HJ.out.below.size; have := hb.size; omega) (.cells #[.int .i64 (ri : Int), .int .i64 (rj : Int)] 53))
      clear hb
      go_wp2
      go_ret2
      exact ⟨by rw [HE.out]; rfl, HBe.out⟩
    · obtain ⟨hij, hj, f', hf', hc', hs'⟩ := swF_step (by omega) hR2 hz HJ.out.cost
      have hz1 : (rz == 0) = false := beq_false_of_ne hz
      have HCn : Hid (cst (uAt m) (tAt (sw2 ys ri rj)) (sw2 ys ri rj).length ≤ f' ∧ k + 1 + swF (uAt m) f' (sw2 ys ri rj) = R ∧ ∀ y ∈ sw2 ys ri rj, marksL (bl y) = true) := Lib.hid ⟨by rw [sw2_len]; exact hc', by have := HJ.out.cnt; rw [hs'] at this; omega, sw2_mem (by omega) hj HJ.out.mks⟩
      have hri : ri < xs.length := by omega
      have hrj : rj < xs.length := by omega
      have HLn : Hid (ri < ys.length ∧ rj < ys.length ∧ ys.length = xs.length) := Lib.hid ⟨by omega, by omega, hyl⟩
      have hf2 : f' + 1 = f := hf'.symm
      clear hR2 hz hc' hs' hf' hyl hysp
      go_wp2_with fail
      refine HG.out.mono ?_
      rintro e w3 ⟨rfl, hb⟩
      have HJr := Lib.hid ((HJ.out.row.below hb).below (below_alloc w3 (.cells #[.int .i64 (ri : Int), .int .i64 (rj : Int)] 53)))
      have HJb := Lib.hid ((HJ.out.below.trans (hb.mono HJ.out.below.size)).alloc (by have := HJ.out.below.size; have := hb.size; omega) (.cells #[.int .i64 (ri : Int), .int .i64 (rj : Int)] 53))
      have HP := Lib.hid (two_new w3 ri rj)
      have HNe : Hid (B < w3.heap.size) := Lib.hid (Nat.lt_of_lt_of_le HJ.out.row.lt hb.size)
      clear hb
      go_wp2_with fail
      have p0 := HP.out.cell0
      have p1 := HP.out.cell1
      have d1 := HJr.out.cell ri HLn.out.1
      have d2 := HJr.out.cell rj HLn.out.2.1
      have f1 := HJr.out.opn ri HLn.out.1
      have f2 := HJr.out.opn rj HLn.out.2.1
      have HS2 := Lib.hid (HJr.out.sw HLn.out.1 HLn.out.2.1)
      generalize ys.getD ri ⟨#[]⟩ = xi at *
      generalize ys.getD rj ⟨#[]⟩ = xj at *
      have q0 : (0 : Int) ≤ (ri : Int) := by omega
      have q1 : (ri : Int) < (xs.length : Int) := by omega
      have q2 : (0 : Int) ≤ (rj : Int) := by omega
      have q3 : (rj : Int) < (xs.length : Int) := by omega
      go_wp2
      go_quiet (fail)
      obtain ⟨V, hV⟩ : ∃ V : World, V = (w3.alloc (.cells #[.int .i64 (ri : Int), .int .i64 (rj : Int)] 53)).drewN nq := ⟨_, rfl⟩
      have HV : Hid (SwJo w ((V.setCell ⟨B, ri, none⟩ (.string xj)).setCell ⟨B, rj, none⟩ (.string xi)) B xs.length m (k + 1) f' R (sw2 ys ri rj)) := Lib.hid (by
        rw [hV]
        exact ⟨⟨HS2.out.cell, HS2.out.opn, HS2.out.lt⟩, by rw [sw2_len]; exact HLn.out.2.2, ((below_dr HJb.out nq).setCell (p := ⟨B, ri, none⟩) hB _).setCell (p := ⟨B, rj, none⟩) hB _, HCn.out.2.2, HCn.out.1, HCn.out.2.1⟩)
      have e1 : V.cell? ⟨B, ri, none⟩ = some (.string xi) := by rw [hV]; exact d1
      have e2 : V.cell? ⟨B, rj, none⟩ = some (.string xj) := by rw [hV]; exact d2
      have e3 : V.frozen? ⟨B, ri, none⟩ = false := by rw [hV]; exact f1
      have e4 : V.frozen? ⟨B, rj, none⟩ = false := by rw [hV]; exact f2
      have e5 : V.cell? ⟨w3.heap.size, 0, none⟩ = some (.int .i64 (ri : Int)) := by rw [hV]; exact p0
      have e6 : V.cell? ⟨w3.heap.size, 1, none⟩ = some (.int .i64 (rj : Int)) := by rw [hV]; exact p1
      have e7 : (V.setCell ⟨B, ri, none⟩ (.string xj)).cell? ⟨B, rj, none⟩ = some (.string xj) := by
        rw [World.cell?_setCell_other _ _ _ _ (by intro e; have e8 := congrArg Addr.off e; simp only at e8; omega)]; exact e2
      have e9 : (V.setCell ⟨B, ri, none⟩ (.string xj)).cell? ⟨w3.heap.size, 1, none⟩ = some (.int .i64 (rj : Int)) := by
        rw [World.cell?_setCell_other _ _ _ _ (by intro e; have e8 := congrArg Addr.block e; simp only at e8; have := HNe.out; omega)]; exact e6
      rw [← hV]
      clear hV p0 p1 d1 d2 f1 f2
      go_wp2
      go_roundw
      case rel => exact ⟨k + 1, f', sw2 ys ri rj, by go_num, by omega, HV⟩
      case measure => simp [intOf]; omega

/-! ### Whatever comes in -/
def swtOk (xs : List ByteArray) (l : List Int) : Bool := fitB xs l
def swtR (xs : List ByteArray) (l : List Int) : Nat := if fitB xs l = true then swF (uAt (l.map Int.toNat)) (cst (uAt (l.map Int.toNat)) (tAt xs) xs.length) xs else 0
theorem sSwapsT_any (a : Option Addr) (b o c : Nat) (xs : List ByteArray) (a1 : Option Addr) (g1 c1 : Nat) (l : List Int) (w : World) (h : ListIn w a b o xs) (hs : SrcV w a1 g1 (intz l)) (hl : l.length ≤ 1048576) :
    Calls Try.prog 45 #[.agg #[.slice a xs.length c], .slice a1 l.length c1] w fun e w' => e = .returned (.tuple #[.int .i64 (swtR xs l : Nat), .bool (fitB xs l)]) ∧ Below w.heap.size w w' := by
  have hxl := h.len
  by_cases hf : fitB xs l = true
  · obtain ⟨m, rfl, hm, ht, hlen⟩ := fit_nat hf
    have e : swtR xs (zs m) = swF (uAt m) (cst (uAt m) (tAt xs) xs.length) xs := by unfold swtR; rw [if_pos hf, map_zs]
    rw [hf, e, zs_len, hlen]
    exact sSwapsYes_any a b o c xs a1 g1 c1 m w h hs ht hm hlen hf _ _ rfl rfl
  · have hf2 : fitB xs l = false := by simpa using hf
    have F2 := Lib.hid fun W hb => val_eq (v' := .bool false) (sFits_any a b o c xs a1 g1 c1 l W (h.below (w' := W) hb) (hs.below hb) hl) (by rw [hf2])
    have HR : Hid (swtR xs l = 0) := Lib.hid (by unfold swtR; rw [if_neg hf])
    rw [hf2, HR.out]
    clear h hs hf hf2
    go_enter Try.func45, Try.ntmps45
    go_wp2_with fail
    refine (F2.out _ (below_alloc _ _)).mono ?_
    rintro e w1 ⟨rfl, hb⟩
    have HB := Lib.hid ((below_alloc w (.cells #[.slice a xs.length c] 29)).trans (hb.mono (by simp)))
    clear hb
    go_wp2
    go_ret2
    exact ⟨rfl, HB.out⟩
theorem swapsT_any (a : Option Addr) (b o c : Nat) (xs : List ByteArray) (a1 : Option Addr) (g1 c1 : Nat) (l : List Int) (w : World) (h : ListIn w a b o xs) (hs : SrcV w a1 g1 (intz l)) (hl : l.length ≤ 1048576) :
    Calls Try.prog 46 #[.agg #[.slice a xs.length c], .slice a1 l.length c1] w fun e w' => e = .returned (.tuple #[.int .i64 (swtR xs l : Nat), .bool (fitB xs l)]) ∧ Below w.heap.size w w' := by
  have hxl := h.len
  by_cases hf : fitB xs l = true
  · obtain ⟨m, rfl, hm, ht, hlen⟩ := fit_nat hf
    have e : swtR xs (zs m) = swF (uAt m) (cst (uAt m) (tAt xs) xs.length) xs := by unfold swtR; rw [if_pos hf, map_zs]
    rw [hf, e, zs_len, hlen]
    exact swapsYes_any a b o c xs a1 g1 c1 m w h hs ht hm hlen hf _ _ rfl rfl
  · have hf2 : fitB xs l = false := by simpa using hf
    have F2 := Lib.hid fun W hb => val_eq (v' := .bool false) (areWFor_any a b o c xs a1 g1 c1 l W (h.below (w' := W) hb) (hs.below hb) hl) (by rw [hf2])
    have HR : Hid (swtR xs l = 0) := Lib.hid (by unfold swtR; rw [if_neg hf])
    rw [hf2, HR.out]
    clear h hs hf hf2
    go_enter Try.func46, Try.ntmps46
    go_wp2
    go_step3
    go_wp2_with fail
    refine (F2.out _ (below_alloc _ _)).mono ?_
    rintro e w1 ⟨rfl, hb⟩
    have HB := Lib.hid ((below_alloc w (.cells #[.slice a xs.length c] 29)).trans (hb.mono (by simp)))
    clear hb
    go_wp2
    try rw [Exit.noGoto_ret]
    go_ret2
    exact ⟨rfl, HB.out⟩

theorem swapsToBest_both (xs : List ByteArray) (l : List Int) (hxl : xs.length ≤ 1048576) (hxt : ∀ x ∈ xs, x.size ≤ 1048576) (hl : l.length ≤ 1048576) : ∃ (R0 : Int) (R1 : Bool),
    Hid (∀ W a b o c, ListIn W a b o xs → ∀ a1 g1 c1, SrcV W a1 g1 (intz l) → Calls Try.prog 45 #[.agg #[.slice a xs.length c], .slice a1 l.length c1] W fun e W' => e = .returned (.tuple #[.int .i64 R0, .bool R1]) ∧ Below W.heap.size W W') ∧
    Hid (∀ W a b o c, ListIn W a b o xs → ∀ a1 g1 c1, SrcV W a1 g1 (intz l) → Calls Try.prog 46 #[.agg #[.slice a xs.length c], .slice a1 l.length c1] W fun e W' => e = .returned (.tuple #[.int .i64 R0, .bool R1]) ∧ Below W.heap.size W W') :=
  ⟨_, _, fun W a b o c h a1 g1 c1 hs => sSwapsT_any a b o c xs a1 g1 c1 l W h hs hl, fun W a b o c h a1 g1 c1 hs => swapsT_any a b o c xs a1 g1 c1 l W h hs hl⟩
end Go.Proofs.Ytfnklfpcmgjfjaa
