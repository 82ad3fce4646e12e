/-
  EncodeMessage, TimeOfMessage, the program's and the model's: both answer alike. Used by the claims on chapter 2.
-/
import Derived.Test.YtekgmdigchobbaaDoorEncS
import Derived.Test.YtekgmdigchobbaaDoorCutL
import Derived.Test.YtekgmdigchobbaaDoorTimeB
namespace Go.Proofs.YtekgmdigchobbaaDoor
open Go.RowKit
set_option linter.unusedVariables false

def validM (xs : List ByteArray) (m : ByteArray) : Bool := tableB xs && msgL xs.length (bl m)
def encR (xs : List ByteArray) (m : ByteArray) : ByteArray × Bool := if validM xs m = true then (ba (encL (xs.map bl) (bl m)), true) else (⟨#[]⟩, false)
theorem validM_iff {xs : List ByteArray} {m : ByteArray} : validM xs m = true ↔ tableB xs = true ∧ msgL xs.length (bl m) = true := by simp [validM]

/-- What the program's EncodeMessage asks of Go's library: the cell that strings.Split looks at. -/
def MaxIs (w : World) : Prop := ∃ v : Int, w.cell? ⟨0, 0, none⟩ = some (.int .i64 v)

theorem words_len {xs : List ByteArray} {m : ByteArray} (h : validM xs m = true) : (splitL 32 (bl m)).length ≤ 13 ∧ ∀ x ∈ splitL 32 (bl m), x.length ≤ 12 ∧ ∀ u ∈ x, inRow xs.length u = true := by
  obtain ⟨ht, hm⟩ := validM_iff.1 h
  have h12 := msgGo_len hm
  have h1 := len_split 32 (bl m)
  have h3 : ∀ (l : List Bs), l.length ≤ (l.map fun x => x.length + 1).sum ∧ ∀ x ∈ l, x.length + 1 ≤ (l.map fun x => x.length + 1).sum := by
    intro l
    induction l with
    | nil => simp
    | cons y r ih =>
      simp only [List.map_cons, List.sum_cons, List.length_cons, List.mem_cons]
      refine ⟨by omega, fun x hx => ?_⟩
      rcases hx with e | e
      · subst e; omega
      · have := ih.2 x e; omega
  have h4 : ∀ (l : Bs) (x : Bs), x ∈ splitL 32 l → ∀ u ∈ x, u ∈ l ∧ u ≠ 32 := by
    intro l
    induction l with
    | nil => intro x hx u hu; simp [splitL] at hx; subst hx; simp at hu
    | cons c r ih =>
      intro x hx u hu
      by_cases hc : c = 32
      · subst hc
        rw [splitL_hit] at hx
        rcases List.mem_cons.1 hx with e | e
        · subst e; simp at hu
        · have := ih x e u hu; exact ⟨by simp [this.1], this.2⟩
      · obtain ⟨y, ys, hy⟩ := splitL_cons 32 r
        rw [splitL_miss hc hy] at hx
        rcases List.mem_cons.1 hx with e | e
        · subst e
          rcases List.mem_cons.1 hu with e2 | e2
          · subst e2; exact ⟨by simp, hc⟩
          · have := ih y (by rw [hy]; simp) u e2; exact ⟨by simp [this.1], this.2⟩
        · have := ih x (by rw [hy]; simp [e]) u hu; exact ⟨by simp [this.1], this.2⟩
  have h5 := h3 (splitL 32 (bl m))
  refine ⟨by omega, fun x hx => ⟨by have := h5.2 x hx; omega, fun u hu => ?_⟩⟩
  obtain ⟨g1, g2⟩ := h4 _ x hx u hu
  rcases msg_sign hm u g1 with e | e
  · exact absurd e g2
  · exact e
theorem rowIs_below {w w' : World} {b : Nat} {t : TypeId} {n : Nat} {f : Nat → Value} (h : w.rowIs b t n f) (hb : Below w.heap.size w w') : w'.rowIs b t n f := by
  obtain ⟨c, h1, h2, h3⟩ := h
  exact ⟨c, (hb.block b (Array.getElem?_eq_some_iff.1 h1).1).trans h1, h2, h3⟩
theorem MaxIs.below {w w' : World} (h : MaxIs w) (hb : Below w.heap.size w w') : MaxIs w' := by
  obtain ⟨v, hv⟩ := h
  exact ⟨v, (hb.cell (World.block_lt_of_cell? _ _ hv)).trans hv⟩
/-- The word at a place, then its marks. -/
def wordsM (m : ByteArray) : List ByteArray := Lib.splitB ⟨#[32]⟩ 0 (Lib.countB m ⟨#[32]⟩) m
def wordOut (xs : List ByteArray) (m : ByteArray) (k j : Nat) : ByteArray := if j < k then ba (wordL (xs.map bl) (bl ((wordsM m).getD j ⟨#[]⟩))) else (wordsM m).getD j ⟨#[]⟩
theorem wordsM_L (m : ByteArray) : (wordsM m).map bl = splitL 32 (bl m) := splitB_L m 32
theorem wordsM_len (m : ByteArray) : (wordsM m).length = Lib.countB m ⟨#[32]⟩ + 1 := Lib.splitB_all _ (by decide) 0 _ m rfl

set_option maxHeartbeats 4000000 in
set_option maxRecDepth 8000 in
theorem encode_any (a : Option Addr) (b o c : Nat) (xs : List ByteArray) (m : ByteArray) (w : World) (h : ListIn w a b o xs) (hm : m.size ≤ 1048576) (hM : MaxIs w) :
    Calls Tryd.prog 10 #[.agg #[.slice a xs.length c], .string m] w fun e w' => e = .returned (.tuple #[.string (encR xs m).1, .bool (encR xs m).2]) ∧ Below w.heap.size w w' := by
  have hl := h.len
  have F := Lib.hid fun W hb => isMessage_any a b o c xs m W (h.below (w' := W) hb) (by unfold maxLen; omega)
  have HS := Lib.hid h
  have HMx := Lib.hid hM
  clear h hM
  by_cases hv : validM xs m = true
  · have hv2 := validM_iff.1 hv
    have HTb := Lib.hid hv2.1
    have HMs := Lib.hid hv2.2
    have F2 := Lib.hid fun W hb => val_eq (v' := .tuple #[.bool true, .bool true]) (F.out W hb) (by rw [hv2.1, hv2.2]; rfl)
    have HR : Hid (encR xs m = (ba (encL (xs.map bl) (bl m)), true)) := Lib.hid (if_pos hv)
    have HWd := Lib.hid (words_len hv)
    obtain ⟨n, hn⟩ : ∃ n, n = Lib.countB m ⟨#[32]⟩ + 1 := ⟨_, rfl⟩
    have HN : Hid ((wordsM m).length = n) := Lib.hid (by rw [wordsM_len, hn])
    have hn13 : n ≤ 13 := by have := HWd.out.1; rw [← wordsM_L, List.length_map, HN.out] at this; exact this
    have hn1 : 1 ≤ n := by omega
    have HSp : Hid (∀ W, MaxIs W → Calls Tryd.prog 32 #[.string m, .string ⟨#[32]⟩] W fun e w' => e = .returned (.slice (some ⟨W.heap.size, 0, none⟩) n n) ∧ w'.rowIs W.heap.size 9 n (fun j => .string (wordOut xs m 0 j)) ∧ Below W.heap.size W w') := fun W ⟨v, hv⟩ => (Tryd.strings_Split m ⟨#[32]⟩ v W (by omega) hv (by decide)).mono fun e w' ⟨h1, h2⟩ => by
      refine ⟨by rw [h1, hn], ?_, by rw [h2]; exact below_alloc _ _⟩
      rw [h2]
      have h3 := World.rowIs_alloc W ((wordsM m).map Value.string).toArray 9 (fun j => .string (wordOut xs m 0 j)) (fun i hi => by
        have hi2 : i < (wordsM m).length := by simpa using hi
        simp [wordOut, hi2])
      have h4 : ((wordsM m).map Value.string).toArray.size = n := by simp [HN.out]
      rw [h4] at h3
      exact h3
    have HWa : Hid (∀ W k, k < n → Below w.heap.size w W → Calls Tryd.prog 33 #[.agg #[.slice a xs.length c], .string (wordOut xs m 0 k)] W fun e w' => e = .returned (.string (wordOut xs m (k + 1) k)) ∧ Below W.heap.size W w') := fun W k hk hb => by
      have e1 : wordOut xs m 0 k = (wordsM m).getD k ⟨#[]⟩ := if_neg (by omega)
      have e2 : wordOut xs m (k + 1) k = ba (wordL (xs.map bl) (bl ((wordsM m).getD k ⟨#[]⟩))) := if_pos (by omega)
      have hk2 : k < (wordsM m).length := by rw [HN.out]; exact hk
      have e3 : (wordsM m).getD k ⟨#[]⟩ = (wordsM m)[k] := by rw [List.getD_eq_getElem?_getD, List.getElem?_eq_getElem hk2]; rfl
      have hin : bl (wordsM m)[k] ∈ splitL 32 (bl m) := by rw [← wordsM_L]; exact List.mem_map.2 ⟨_, List.getElem_mem hk2, rfl⟩
      have hw := HWd.out.2 _ hin
      rw [e1, e2, e3]
      exact word_any a b o c xs _ W (HS.out.below hb) ((tableB_iff xs).1 HTb.out).1.2 (fun x hx => by
        have := ((tableB_iff xs).1 HTb.out).2.1 x hx
        simp only [marksL, Bool.and_eq_true, decide_eq_true_eq, bl_len] at this
        exact this.1.2) hw.2 (by rw [← bl_len]; exact hw.1)
    have HJo : Hid (∀ (W : World) g, W.rowIs g 9 n (fun j => .string (wordOut xs m n j)) → Calls Tryd.prog 34 #[.slice (some ⟨g, 0, none⟩) n n, .string ⟨#[47]⟩] W fun e w' => e = .returned (.string (ba (encL (xs.map bl) (bl m)))) ∧ Below W.heap.size W w') := fun W g hrow => by
      have hmap : ((wordsM m).map fun y => ba (wordL (xs.map bl) (bl y))).map (·.data.toList) = (splitL 32 (bl m)).map (fun w => Lib.join (w.map (look (xs.map bl))) [32]) := by
        rw [← wordsM_L, List.map_map, List.map_map]
        refine List.map_congr_left fun y _ => ?_
        exact bl_ba _
      have hJ := Tryd.strings_Join g 0 n ((wordsM m).map fun y => ba (wordL (xs.map bl) (bl y))) ⟨#[47]⟩ W (fun j x hx => by
        rw [List.getElem?_map] at hx
        cases h9 : (wordsM m)[j]? with
        | none => rw [h9] at hx; cases hx
        | some y =>
          rw [h9, Option.map_some] at hx
          have hj : j < n := by rw [← HN.out]; exact (List.getElem?_eq_some_iff.1 h9).1
          have h5 := hrow.cell hj
          rw [wordOut, if_pos hj, List.getD_eq_getElem?_getD, h9] at h5
          rw [Nat.zero_add, h5, ← Option.some.inj hx]; rfl) hrow.lt (by rw [List.length_map, HN.out]; omega) (by rw [List.length_map, HN.out]; exact Nat.le_refl _) (by
            rw [hmap]
            show (Lib.join _ [47]).length ≤ _
            rw [← enc_join]
            exact Nat.le_trans (enc_len HTb.out (by rw [List.length_map]; exact HMs.out)) (by decide))
      rw [hmap, List.length_map, HN.out] at hJ
      rw [enc_join]
      exact hJ
    clear hv hv2 F hn
    go_enter Tryd.func10, Tryd.ntmps10
    go_wp2_with fail
    refine (F2.out _ (below_alloc _ _)).mono ?_
    rintro e w1 ⟨rfl, hb⟩
    have hc1 : w1.cell? ⟨w.heap.size, 0, none⟩ = some (.slice a xs.length c) := (hb.cell (p := ⟨w.heap.size, 0, none⟩) (by simp)).trans (cell_new _ _ _)
    have HB := Lib.hid ((below_alloc w (.cells #[.slice a xs.length c] 26)).trans (hb.mono (by simp)))
    clear hb
    go_wp2_with fail
    refine (HSp.out w1 (HMx.out.below HB.out)).mono ?_
    rintro e w2 ⟨rfl, hrow, hb⟩
    have hc2 := (hb.cell (World.block_lt_of_cell? _ _ hc1)).trans hc1
    have HR2 := Lib.hid hrow
    have HB2 := Lib.hid (HB.out.trans (hb.mono HB.out.size))
    have HG : Hid (w.heap.size < w1.heap.size) := Lib.hid (World.block_lt_of_cell? _ _ hc1)
    clear hb hc1 hrow
    go_wp2_with fail
    go_loopw [27] (fun v wr => ∃ k : Nat, v = .int .i64 k ∧ k ≤ n ∧ wr.cell? ⟨w.heap.size, 0, none⟩ = some (.slice a xs.length c) ∧ Hid (wr.rowIs w1.heap.size 9 n (fun j => .string (wordOut xs m k j))) ∧ Hid (Below w.heap.size w wr)) (fun v _ => n - (intOf v).toNat)
    case atStart => exact ⟨0, rfl, Nat.zero_le _, hc2, HR2, HB2⟩
    case round =>
      obtain ⟨k, rfl, hk, hc3, HV, HB3⟩ := hrel
      by_cases hlt : k < n
      · have hcell := HV.out.cell hlt
        have hfz := HV.out.frozen k
        have e0 : wordOut xs m k k = wordOut xs m 0 k := by unfold wordOut; rw [if_neg (by omega), if_neg (by omega)]
        rw [e0] at hcell
        have HW := Lib.hid fun W hb => HWa.out W k hlt hb
        obtain ⟨x, hx⟩ : ∃ x, x = wordOut xs m 0 k := ⟨_, rfl⟩
        obtain ⟨y, hy⟩ : ∃ y, y = wordOut xs m (k + 1) k := ⟨_, rfl⟩
        rw [← hx] at hcell HW
        rw [← hy] at HW
        have HY := Lib.hid hy
        have i0 : (0 : Int) ≤ (k : Int) := by omega
        have i1 : (k : Int) < (n : Int) := by omega
        clear e0 hx hy
        go_wp2_with fail
        refine (HW.out _ HB3.out).mono ?_
        rintro e w4 ⟨rfl, hb⟩
        have hrow4 := rowIs_below HV.out hb
        have hc4 := (hb.cell (World.block_lt_of_cell? _ _ hc3)).trans hc3
        have HB4 := Lib.hid (HB3.out.trans (hb.mono HB3.out.size))
        have d1 := hrow4.cell hlt
        have d2 := hrow4.frozen k
        have HV5 : Hid ((w4.setCell ⟨w1.heap.size, k, none⟩ (.string y)).rowIs w1.heap.size 9 n (fun j => .string (wordOut xs m (k + 1) j))) := Lib.hid ((hrow4.set k (.string y)).congr fun j hj => by
          by_cases e : j = k
          · subst e; rw [if_pos rfl, HY.out]
          · rw [if_neg e]
            unfold wordOut
            by_cases e2 : j < k
            · rw [if_pos e2, if_pos (by omega)]
            · rw [if_neg e2, if_neg (by omega)])
        have hc5 : (w4.setCell ⟨w1.heap.size, k, none⟩ (.string y)).cell? ⟨w.heap.size, 0, none⟩ = some (.slice a xs.length c) := by
          rw [World.cell?_setCell_other _ _ _ _ (by intro e; have e2 := congrArg Addr.block e; simp only at e2; have := HG.out; omega)]
          exact hc4
        have HB5 := Lib.hid (HB4.out.setCell (p := ⟨w1.heap.size, k, none⟩) (Nat.le_of_lt HG.out) (.string y))
        clear hb hcell hfz hc3 hrow4 hc4
        go_wp2
        go_roundw
        case rel => exact ⟨k + 1, by go_num, by omega, hc5, HV5, HB5⟩
        case measure => simp [intOf]; omega
      · obtain rfl : k = n := by omega
        have HJ2 := Lib.hid (HJo.out wr _ HV.out)
        go_wp2_with fail
        refine HJ2.out.mono ?_
        rintro e w6 ⟨rfl, hb⟩
        have HB6 := Lib.hid (HB3.out.trans (hb.mono HB3.out.size))
        clear hb
        go_wp2
        go_ret2
        exact ⟨by rw [HR.out]; rfl, HB6.out⟩
  · have HR : Hid (encR xs m = (⟨#[]⟩, false)) := Lib.hid (if_neg hv)
    by_cases ht : tableB xs = true
    · have F2 := Lib.hid fun W hb => val_eq (v' := .tuple #[.bool false, .bool true]) (F.out W hb) (by
        have : msgL xs.length (bl m) = false := by simpa [validM, ht] using hv
        rw [ht, this]; rfl)
      clear hv F ht
      go_enter Tryd.func10, Tryd.ntmps10
      go_wp2_with fail
      refine (F2.out _ (below_alloc _ _)).mono ?_
      rintro e w1 ⟨rfl, hb⟩
      have HB := Lib.hid ((below_alloc w (.cells #[.slice a xs.length c] 26)).trans (hb.mono (by simp)))
      clear hb
      go_wp2
      go_ret2
      exact ⟨by rw [HR.out]; rfl, HB.out⟩
    · have F2 := Lib.hid fun W hb => val_eq (v' := .tuple #[.bool false, .bool false]) (F.out W hb) (by simp [ht])
      clear hv F ht
      go_enter Tryd.func10, Tryd.ntmps10
      go_wp2_with fail
      refine (F2.out _ (below_alloc _ _)).mono ?_
      rintro e w1 ⟨rfl, hb⟩
      have HB := Lib.hid ((below_alloc w (.cells #[.slice a xs.length c] 26)).trans (hb.mono (by simp)))
      clear hb
      go_wp2
      go_ret2
      exact ⟨by rw [HR.out]; rfl, HB.out⟩
end Go.Proofs.YtekgmdigchobbaaDoor
