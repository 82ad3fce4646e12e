/-
  FilledNodes, the program's and the model's: both answer alike. Used by the claims on chapter 9.
-/
import Derived.Test.YtdphjnbelggcfaaNumW
import Derived.Test.YtdphjnbelggcfaaPutN
import Derived.Test.YtdphjnbelggcfaaSTableW
import Derived.Test.YtdphjnbelggcfaaShi
namespace Go.Proofs.Ytdphjnbelggcfaa
open Go.RowKit Go.Maps Go.Sort
set_option linter.unusedVariables false

theorem sortInts_holds : SortInts := fun blk off cap zs w h1 h2 h3 => Try.slices_Sort_int blk off cap zs w h1 h2 h3
theorem seqOut_rowF {W W' : World} {base : Nat} {e : TypeId} {size : Nat} {v : Value} {n : Nat} {vs : List Value} (h : W'.ownsRow base e size v n vs) (hw : W.heap.size ≤ base) (hb : Below W.heap.size W W') : SeqOut vs n true W (.returned (.tuple #[v, .bool true])) W' := by
  obtain ⟨a, g, c, rfl, hs, hg, hf⟩ := seq_of_row h
  exact ⟨a, g, c, rfl, hs, fun h => Nat.le_trans hw (hg h), hf, hb⟩
theorem seqOut_nothingF {W W' : World} (hb : Below W.heap.size W W') (a : Option Addr) (c : Nat) : SeqOut [] 0 false W (.returned (.tuple #[.slice a 0 c, .bool false])) W' :=
  ⟨a, W.heap.size, c, rfl, ⟨fun h => by simp at h, fun j x hx => by simp at hx⟩, fun h => by simp at h, fun j hj => by simp at hj, hb⟩

/-- The nodes of the first k letters, in their order. -/
def flT (xs : List ByteArray) : Nat → List Nat
  | 0 => []
  | k + 1 => insN (flT xs k) (ndI xs k)
theorem flT_mem (xs : List ByteArray) : ∀ k d, d ∈ flT xs k ↔ ∃ i, i < k ∧ d = ndI xs i
  | 0, d => by simp [flT]
  | k + 1, d => by
    rw [flT, insN_mem, flT_mem xs k d]
    constructor
    · rintro (⟨i, hi, e⟩ | e)
      · exact ⟨i, by omega, e⟩
      · exact ⟨k, by omega, e⟩
    · rintro ⟨i, hi, e⟩
      by_cases h : i = k
      · subst h; exact .inr e
      · exact .inl ⟨i, by omega, e⟩
theorem flT_lt (xs : List ByteArray) : ∀ k, (flT xs k).Pairwise (· < ·)
  | 0 => List.Pairwise.nil
  | k + 1 => insN_lt (flT_lt xs k)
theorem flT_len (xs : List ByteArray) : ∀ k, (flT xs k).length ≤ k
  | 0 => Nat.le_refl _
  | k + 1 => Nat.le_trans insN_len (by have := flT_len xs k; omega)
theorem ndI_facts {xs : List ByteArray} (ht : tableB xs = true) : (∀ x ∈ xs, noneT x = true) ∧ (∀ i, i < xs.length → ndI xs i ≤ 63) ∧ (∀ i j, i < j → j < xs.length → ndI xs i ≠ ndI xs j) := by
  obtain ⟨_, h2, h3⟩ := (tableB_iff xs).1 ht
  refine ⟨fun x hx => noneT_marks (h2 x hx), fun i hi => ?_, fun i j hij hj e => ?_⟩
  · rw [ndI_eq (List.getElem?_eq_getElem hi)]
    exact nd_le (by rw [bl_len]; exact noneT_size (noneT_marks (h2 _ (List.getElem_mem hi))))
  · rw [ndI_eq (List.getElem?_eq_getElem (show i < xs.length by omega)), ndI_eq (List.getElem?_eq_getElem hj)] at e
    have ma := noneT_all (noneT_marks (h2 _ (List.getElem_mem (show i < xs.length by omega))))
    have mb := noneT_all (noneT_marks (h2 _ (List.getElem_mem hj)))
    exact (List.pairwise_iff_getElem.1 h3 i j (by omega) hj hij) (bl_inj (nd_inj ma mb e))
def flR (xs : List ByteArray) : List Nat := if tableB xs = true then flT xs xs.length else []
theorem flR_le (xs : List ByteArray) : (flR xs).length ≤ xs.length := by
  unfold flR
  split
  · exact flT_len xs _
  · simp

/-! ### The program's -/
set_option maxHeartbeats 2000000 in
theorem filledNodes_any (a : Option Addr) (b o c : Nat) (xs : List ByteArray) (w : World) (h : ListIn w a b o xs) :
    Calls Try.prog 27 #[.agg #[.slice a xs.length c]] w (SeqOut (ints (flR xs)) (flR xs).length (tableB xs) w) := by
  have F := Lib.hid fun W hb => isTable_any a b o c xs W (h.below (w' := W) hb)
  have HB0 := Lib.hid (below_alloc w (.cells #[.slice a xs.length c] 35))
  have HC0 := Lib.hid (cell_new w (.slice a xs.length c) 35)
  cases ht : tableB xs with
  | true =>
    have hf := ndI_facts ht
    have h10 := ((tableB_iff xs).1 ht).1.2
    have G := Lib.hid fun W hb => lettersByNode_any a b o c xs W (h.below (w' := W) hb) hf.1 (by omega) hf.2.2
    have HR : Hid (flR xs = flT xs xs.length) := Lib.hid (if_pos ht)
    have H63 := Lib.hid hf.2.1
    rw [ht] at F
    rw [HR.out]
    clear ht h hf
    go_enter Try.func27, Try.ntmps27
    go_wp2_with fail
    refine (F.out _ HB0.out).mono ?_
    rintro e w1 ⟨rfl, hb⟩
    have l1 := (hb.cell (World.block_lt_of_cell? _ _ HC0.out)).trans HC0.out
    have HB1 := Lib.hid (HB0.out.trans (hb.mono HB0.out.size))
    clear hb
    go_wp2_with fail
    refine (G.out _ HB1.out).mono ?_
    rintro e w2 ⟨B, D, rfl, hB, hM, hb⟩
    have HB2 := Lib.hid (HB1.out.trans (hb.mono HB1.out.size))
    have hsz := hM.own.size_le
    have HS := Lib.hid (numbersOfI_any sortInts_holds B xs.length D w2 hM.own (by omega) (fun kl hk => by
      obtain ⟨i, hi, e⟩ := (hM.has_ kl).1 hk
      exact ⟨ndI xs i, H63.out i hi, e⟩))
    have HM := Lib.hid hM.has_
    clear hb l1 hM hsz
    go_wp2_with fail
    refine HS.out.mono ?_
    rintro e w3 ⟨L, g, cc, rfl, hown, hp, hm, hb⟩
    have HB3 := Lib.hid (HB2.out.trans (hb.mono HB2.out.size))
    have HO := Lib.hid (own_baseN hown HB2.out.size)
    have HL : Hid (L = flT xs xs.length) := Lib.hid (lt_unique hp (flT_lt xs _) fun d => by
      rw [hm d, HM.out, flT_mem]
      exact ⟨fun ⟨i, hi, e⟩ => ⟨i, hi, keyM_inj e⟩, fun ⟨i, hi, e⟩ => ⟨i, hi, by rw [e]⟩⟩)
    clear hown hp hm hb
    go_wp2
    go_ret2
    rw [← HL.out]
    exact seqOut_rowF HO.out (Nat.le_refl _) HB3.out
  | false =>
    have HR : Hid (flR xs = []) := Lib.hid (if_neg (by rw [ht]; simp))
    rw [ht] at F
    rw [HR.out]
    clear ht h
    go_enter Try.func27, Try.ntmps27
    go_wp2_with fail
    refine (F.out _ HB0.out).mono ?_
    rintro e w1 ⟨rfl, hb⟩
    have HB1 := Lib.hid (HB0.out.trans (hb.mono HB0.out.size))
    clear hb
    go_wp2
    go_ret2
    exact seqOut_nothingF HB1.out _ _

/-! ### The model's -/
set_option maxHeartbeats 4000000 in
theorem sFilled_any (a : Option Addr) (b o c : Nat) (xs : List ByteArray) (w : World) (h : ListIn w a b o xs) (hn : ∀ x ∈ xs, noneT x = true) (h63 : ∀ i, i < xs.length → ndI xs i ≤ 63) (hl : xs.length ≤ 62) :
    Calls Try.prog 79 #[.agg #[.slice a xs.length c]] w fun e w' => ∃ u, e = .returned u ∧ u ≠ .slice none 0 0 ∧ w'.ownsRow w.heap.size 3 1 u (flT xs xs.length).length (ints (flT xs xs.length)) ∧ Below w.heap.size w w' := by
  have HS := Lib.hid h
  have HN := Lib.hid hn
  have H63 := Lib.hid h63
  have hB0 := Lib.hid ((below_alloc w (.cells #[.slice a xs.length c] 35)).alloc (by simp) (.cells #[] 3))
  have HC0 : Hid (((w.alloc (.cells #[.slice a xs.length c] 35)).alloc (.cells #[] 3)).cell? ⟨w.heap.size, 0, none⟩ = some (.slice a xs.length c)) := Lib.hid (keep_cell (w.alloc (.cells #[.slice a xs.length c] 35)) (.cells #[] 3) (cell_new w (.slice a xs.length c) 35))
  have HZ : Hid ((w.alloc (.cells #[.slice a xs.length c] 35)).heap.size = w.heap.size + 1) := Lib.hid (by simp)
  have HR0 : Hid (((w.alloc (.cells #[.slice a xs.length c] 35)).alloc (.cells #[] 3)).ownsRow (w.heap.size + 1) 3 1 (.slice (some ⟨w.heap.size + 1, 0, none⟩) 0 0) 0 (ints [])) := Lib.hid (by
    have h := World.ownsRow_made (base := w.heap.size + 1) (e := 3) (size := 1) (w.alloc (.cells #[.slice a xs.length c] 35)) #[] 0 (by rw [HZ.out]; exact Nat.le_refl _) (by unfold maxLen; omega) rfl
    rw [HZ.out] at h; exact h)
  clear h hn h63
  go_enter Try.func79, Try.ntmps79
  go_wp2
  go_loopw [3, 4] (fun u v wr => ∃ k : Nat, v = .int .i64 (k : Int) ∧ k ≤ xs.length ∧ u ≠ .slice none 0 0 ∧ wr.ownsRow (w.heap.size + 1) 3 1 u (flT xs k).length (ints (flT xs k)) ∧ Hid (wr.cell? ⟨w.heap.size, 0, none⟩ = some (.slice a xs.length c)) ∧ Hid (Below w.heap.size w wr) ∧ Hid (w.heap.size + 1 ≤ wr.heap.size)) (fun _ v _ => xs.length - (intOf v).toNat)
  case atStart => exact ⟨0, rfl, Nat.zero_le _, by simp, HR0.out, HC0, hB0, Lib.hid (by simp)⟩
  case round =>
    obtain ⟨k, rfl, hk, hnn, hown, HC, HB, HZs⟩ := hrel
    have l1 := HC.out
    by_cases hlt : k < xs.length
    · obtain rfl := HS.out.src.1 (by omega)
      have hx := List.getElem?_eq_getElem hlt
      have d1 := (HS.out.below HB.out).src.2 k _ hx
      have hx5 := HN.out _ (List.getElem_mem hlt)
      have HX : Hid (ndI xs k = nd (bl xs[k])) := Lib.hid (ndI_eq hx)
      generalize xs[k] = x at d1 hx5 HX hx
      have HG := Lib.hid fun W => sNode_any x W hx5
      rw [← HX.out] at HG
      have h63 := H63.out k hlt
      have HNx : Hid (flT xs (k + 1) = insN (flT xs k) (ndI xs k)) := Lib.hid rfl
      have hlen := flT_len xs k
      have HB63 : Hid (∀ y ∈ flT xs k, y ≤ 1000) := Lib.hid fun y hy => by
        obtain ⟨i, hi, e⟩ := (flT_mem xs k y).1 hy
        have := H63.out i (by omega)
        omega
      obtain ⟨g, cc, hu, hs, hg, hf, hcap⟩ := seq_of_row2 hown hnn
      obtain ⟨m, hm⟩ : ∃ m, m = (flT xs k).length := ⟨_, rfl⟩
      rw [← hm] at hu hlen hcap hown
      subst hu
      have HO := Lib.hid hown
      have hcm : cc ≤ maxLen := by
        rcases hown.2 with ⟨h1, _⟩ | ⟨g', cap', cur, h1, _, _, _, h2, _⟩
        · cases h1
        · injection h1 with _ _ h3; omega
      have HPt := Lib.hid fun W (hW : W = wr) => sPutN_any (w.heap.size + 1) g cc (flT xs k) (ndI xs k) m W hm (by rw [hW]; exact HO.out) (by rw [hW]; exact HZs.out) hcap hcm (by omega) HB63.out (by omega)
      rw [← HNx.out] at HPt
      clear hs hg hf hown hx HX hm
      generalize ndI xs k = d0 at HG HPt h63
      go_wp2_with fail
      refine (HG.out _).mono ?_
      rintro e w1 ⟨rfl, hww⟩
      go_wp2_with fail
      refine (HPt.out _ rfl).mono ?_
      rintro e w2 ⟨u2, rfl, hnn2, hown2, hb2⟩
      have HC2 : Hid (w2.cell? ⟨w.heap.size, 0, none⟩ = some (.slice (some ⟨b, o, none⟩) xs.length c)) := Lib.hid ((hb2.cell (World.block_lt_of_cell? _ _ HC.out)).trans HC.out)
      have HB2 := Lib.hid (HB.out.trans (hb2.mono HB.out.size))
      have HZ2 : Hid (w.heap.size + 1 ≤ w2.heap.size) := Lib.hid (Nat.le_trans HZs.out hb2.size)
      have HO2 := Lib.hid hown2
      clear hb2 l1 hown2
      go_wp2
      go_roundw
      case rel => exact ⟨k + 1, by go_num, by omega, hnn2, HO2.out, HC2, HB2, HZ2⟩
      case measure => simp [intOf]; omega
    · obtain rfl : k = xs.length := by omega
      have HO := Lib.hid (own_baseN hown (Nat.le_succ w.heap.size))
      clear hown
      go_wp2
      go_ret
      exact ⟨_, rfl, hnn, HO.out, HB.out⟩
set_option maxHeartbeats 2000000 in
theorem sFilledNodes_any (a : Option Addr) (b o c : Nat) (xs : List ByteArray) (w : World) (h : ListIn w a b o xs) :
    Calls Try.prog 25 #[.agg #[.slice a xs.length c]] w (SeqOut (ints (flR xs)) (flR xs).length (tableB xs) w) := by
  have F := Lib.hid fun W hb => stable_any a b o c xs W (h.below (w' := W) hb)
  have HB0 := Lib.hid (below_alloc w (.cells #[.slice a xs.length c] 35))
  have HC0 := Lib.hid (cell_new w (.slice a xs.length c) 35)
  cases ht : tableB xs with
  | true =>
    have hf := ndI_facts ht
    have h10 := ((tableB_iff xs).1 ht).1.2
    have G := Lib.hid fun W hb => sFilled_any a b o c xs W (h.below (w' := W) hb) hf.1 hf.2.1 (by omega)
    have HR : Hid (flR xs = flT xs xs.length) := Lib.hid (if_pos ht)
    rw [ht] at F
    rw [HR.out]
    clear ht h hf
    go_enter Try.func25, Try.ntmps25
    go_wp2_with fail
    refine (F.out _ HB0.out).mono ?_
    rintro e w1 ⟨rfl, hb⟩
    have l1 := (hb.cell (World.block_lt_of_cell? _ _ HC0.out)).trans HC0.out
    have HB1 := Lib.hid (HB0.out.trans (hb.mono HB0.out.size))
    clear hb
    go_wp2_with fail
    refine (G.out _ HB1.out).mono ?_
    rintro e w2 ⟨u, rfl, hnn, hown, hb⟩
    have HB2 := Lib.hid (HB1.out.trans (hb.mono HB1.out.size))
    have HO := Lib.hid (own_baseN hown HB1.out.size)
    clear hb l1 hown
    go_wp2
    go_ret2
    exact seqOut_rowF HO.out (Nat.le_refl _) HB2.out
  | false =>
    have HR : Hid (flR xs = []) := Lib.hid (if_neg (by rw [ht]; simp))
    rw [ht] at F
    rw [HR.out]
    clear ht h
    go_enter Try.func25, Try.ntmps25
    go_wp2_with fail
    refine (F.out _ HB0.out).mono ?_
    rintro e w1 ⟨rfl, hb⟩
    have HB1 := Lib.hid (HB0.out.trans (hb.mono HB0.out.size))
    have HB2 := Lib.hid (HB1.out.alloc HB1.out.size (.cells #[] 3))
    clear hb
    go_wp2
    go_ret2
    exact seqOut_nothingF HB2.out _ _
theorem filledNodes_both (xs : List ByteArray) (hl : xs.length ≤ 1048576) (ht : ∀ x ∈ xs, x.size ≤ 1048576) : ∃ (l : List Nat) (R1 : Bool), l.length ≤ 1048576 ∧
    Hid (∀ W a b o c, ListIn W a b o xs → Calls Try.prog 25 #[.agg #[.slice a xs.length c]] W (SeqOut (ints l) l.length R1 W)) ∧
    Hid (∀ W a b o c, ListIn W a b o xs → Calls Try.prog 27 #[.agg #[.slice a xs.length c]] W (SeqOut (ints l) l.length R1 W)) :=
  ⟨_, _, Nat.le_trans (flR_le xs) hl, fun W a b o c h => sFilledNodes_any a b o c xs W h, fun W a b o c h => filledNodes_any a b o c xs W h⟩
end Go.Proofs.Ytdphjnbelggcfaa
