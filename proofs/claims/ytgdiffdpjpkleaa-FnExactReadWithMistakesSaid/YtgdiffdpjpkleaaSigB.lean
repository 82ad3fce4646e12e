/-
  IsSignal, the program's and the model's: both answer alike. Used by the claims on chapter 2.
-/
import Derived.Test.YtgdiffdpjpkleaaWordsW
namespace Go.Proofs.Ytgdiffdpjpkleaa
open Go.RowKit
set_option linter.unusedVariables false

/-- What a walk reads of the words: each word's slice lies in the row, each text in its own. -/
structure WRead (W : World) (v : Value) (ws : List (List ByteArray)) : Prop where
  outer : ∃ g cap, v = .slice (some ⟨g, 0, none⟩) ws.length cap ∧ ∀ i ys, ws[i]? = some ys → ∃ a b c, W.cell? ⟨g, i, none⟩ = some (.slice a (List.length ys) c) ∧ Src W a b 0 ys
theorem wread_of {W : World} {base : Nat} {v : Value} {vs : List Value} {ws : List (List ByteArray)} (h : W.ownsRow base 25 1 v ws.length vs) (hw : WordsAt W base vs ws) (h0 : 0 < ws.length) : WRead W v ws := by
  have h' := h
  rcases h.2 with ⟨_, h1⟩ | ⟨g, cap, cur, rfl, hg, hh, _⟩
  · omega
  · refine ⟨g, cap, rfl, fun i ys hy => ?_⟩
    obtain ⟨u, hu, hr⟩ := hw.2 i ys hy
    have hc := h'.cells (g := g) rfl i u hu
    rw [Addr.add_lit, Nat.zero_add] at hc
    by_cases hy0 : 0 < ys.length
    · obtain ⟨g2, cap2, rfl, hsrc⟩ := row_srcW hr hy0
      exact ⟨_, g2, cap2, hc, hsrc⟩
    · have hnil : ys = [] := List.length_eq_zero_iff.1 (by omega)
      subst hnil
      obtain ⟨a, cap2, rfl⟩ := row_form hr
      exact ⟨a, 0, cap2, hc, ⟨fun h => by simp at h, fun j x hx => by simp at hx⟩⟩
theorem WRead.drewN {W : World} {v : Value} {ws : List (List ByteArray)} (h : WRead W v ws) (q : Nat) : WRead (W.drewN q) v ws := ⟨h.outer⟩

def manyB (ws : List (List ByteArray)) : Nat := (ws.map (fun w => w.length + 1)).sum
def allB (ws : List (List ByteArray)) : Bool := ws.all (fun w => w.all (fun x => marksL (bl x)))
theorem manyB_take (ws : List (List ByteArray)) (k : Nat) (y : List ByteArray) (h : ws[k]? = some y) : manyB (ws.take (k + 1)) = manyB (ws.take k) + y.length + 1 := by
  unfold manyB
  rw [List.take_add_one, h]
  simp; omega
theorem manyB_take_le (ws : List (List ByteArray)) : ∀ k, manyB (ws.take k) ≤ manyB ws := by
  induction ws with
  | nil => intro k; simp [manyB]
  | cons y r ih =>
    intro k
    cases k with
    | zero => simp [manyB]
    | succ k =>
      have := ih k
      simp only [manyB, List.take_succ_cons, List.map_cons, List.sum_cons] at this ⊢
      omega
theorem manyB_L (s : ByteArray) : manyB (wordsB s) = many (wordsL (bl s)) := by
  rw [← wordsB_L]
  unfold manyB many
  rw [List.map_map]
  congr 1
  exact List.map_congr_left fun w _ => by simp
theorem allB_L (s : ByteArray) : allB (wordsB s) = allMk (wordsL (bl s)) := by
  rw [← wordsB_L]
  unfold allB allMk
  rw [List.all_map]
  congr 1
  funext w
  simp [List.all_map, Function.comp_def]
theorem manyB_bd (s : ByteArray) : manyB (wordsB s) ≤ 2 * s.size + 2 := by
  have h1 := len_split 47 (bl s)
  rw [← splitS_L, bl_len] at h1
  unfold manyB wordsB
  rw [List.map_map]
  have h2 : ∀ xs : List ByteArray, (xs.map ((fun w : List ByteArray => w.length + 1) ∘ fun x => splitS x 32)).sum ≤ 2 * ((xs.map bl).map (fun y => y.length + 1)).sum := by
    intro xs
    induction xs with
    | nil => simp
    | cons y r ih =>
      have := (splitS_len y 32).2
      simp only [List.map_cons, List.sum_cons, Function.comp, bl_len] at ih ⊢
      omega
  have := h2 (splitS s 47)
  omega
theorem sig_words {s : ByteArray} (h : bl s ≠ []) : (pieces (bl s)).isSome = (decide (s.size ≤ 72) && (allB (wordsB s) && decide (manyB (wordsB s) ≤ 13))) := by
  rw [pieces_words _ h, allB_L, manyB_L, bl_len]
  by_cases hc : s.size ≤ 72 ∧ allMk (wordsL (bl s)) = true ∧ many (wordsL (bl s)) ≤ 13
  · rw [if_pos hc]; simp [hc.1, hc.2.1, hc.2.2]
  · rw [if_neg hc]
    have : ¬ (s.size ≤ 72 ∧ allMk (wordsL (bl s)) = true ∧ many (wordsL (bl s)) ≤ 13) := hc
    simp only [Option.isSome_none]
    symm
    rw [Bool.eq_false_iff]
    intro h2
    simp only [Bool.and_eq_true, decide_eq_true_eq] at h2
    exact hc ⟨h2.1, h2.2.1, h2.2.2⟩

set_option maxHeartbeats 4000000 in
theorem sSignal_any (s : ByteArray) (w : World) (hs : s.size ≤ 1048576) :
    Calls Try.prog 94 #[.string s] w fun e w' => e = .returned (.bool (pieces (bl s)).isSome) ∧ Below w.heap.size w w' := by
  by_cases hnil : s.size = 0
  · have hE : bl s = [] := List.length_eq_zero_iff.1 (by rw [bl_len]; exact hnil)
    have heq : s.toList.isEmpty = true := by
      rw [ByteArray.toList_eq]
      show (bl s).isEmpty = true
      rw [hE]; rfl
    have HR : Hid ((pieces (bl s)).isSome = true) := Lib.hid (by rw [hE]; rfl)
    rw [HR.out]
    clear hE
    go_enter Try.func94, Try.ntmps94
    go_wp2
    go_ret
    exact ⟨rfl, Below.refl _ _⟩
  · have hne : bl s ≠ [] := fun e => hnil (by rw [← bl_len, e]; rfl)
    have heq : s.toList.isEmpty = false := by
      rw [ByteArray.toList_eq]
      show (bl s).isEmpty = false
      cases h : bl s with
      | nil => exact absurd h hne
      | cons _ _ => rfl
    have HSW := Lib.hid (sig_words hne)
    clear hne
    by_cases h72 : 72 < s.size
    · have HR : Hid ((pieces (bl s)).isSome = false) := Lib.hid (by rw [HSW.out]; simp; omega)
      rw [HR.out]
      go_enter Try.func94, Try.ntmps94
      go_wp2
      go_ret
      exact ⟨rfl, Below.refl _ _⟩
    · have HRq : Hid ((pieces (bl s)).isSome = (allB (wordsB s) && decide (manyB (wordsB s) ≤ 13))) := Lib.hid (by
        have : s.size ≤ 72 := by omega
        rw [HSW.out]; simp [this])
      have G := Lib.hid fun w => words_any s w (by omega)
      have HBd := Lib.hid (manyB_bd s)
      obtain ⟨ws, hws⟩ : ∃ ws, ws = wordsB s := ⟨_, rfl⟩
      rw [← hws] at HRq G HBd
      have hwl : 0 < ws.length ∧ ws.length ≤ 73 := by
        rw [hws, wordsB_len]
        have := splitS_len s 47
        omega
      have HWb : Hid (∀ ys ∈ ws, ys.length ≤ 1048576 ∧ ∀ x ∈ ys, x.size ≤ 1048576) := Lib.hid (by
        have sp : ∀ (t : ByteArray) (b : UInt8), ∀ x ∈ splitS t b, x.size ≤ t.size := by
          intro t b x hx
          have h1 := len_split b (bl t)
          rw [← splitS_L, bl_len] at h1
          have h2 : ∀ xs : List ByteArray, x ∈ xs → x.size + 1 ≤ ((xs.map bl).map (fun y => y.length + 1)).sum := by
            intro xs
            induction xs with
            | nil => intro h; cases h
            | cons y r ih =>
              intro h
              simp only [List.map_cons, List.sum_cons]
              rcases List.mem_cons.1 h with rfl | h
              · rw [bl_len]; omega
              · have := ih h; omega
          have := h2 _ hx
          omega
        intro ys hy
        rw [hws] at hy
        unfold wordsB at hy
        obtain ⟨t, ht, rfl⟩ := List.mem_map.1 hy
        have h1 := sp s 47 t ht
        have h2 := (splitS_len t 32).2
        refine ⟨by omega, fun x hx => ?_⟩
        have := sp t 32 x hx
        omega)
      clear hws
      go_enter Try.func94, Try.ntmps94
      go_wp2_with fail
      refine (G.out _).mono ?_
      rintro e w1 ⟨v, vs, rfl, hown, hwa, hb⟩
      have HWR := Lib.hid (wread_of hown hwa hwl.1)
      have HB1 := Lib.hid hb
      obtain ⟨g, cap, rfl, _⟩ := HWR.out.outer
      clear hown hwa hb
      go_wp2
      go_loopw [4, 5, 6] (fun m v ik wr => ∃ (k mm : Nat), v = .int .i64 k ∧ k ≤ ws.length ∧ m = .int .i64 mm ∧ mm ≤ 1000 ∧ Hid (mm = manyB (ws.take k)) ∧ Hid (allB (ws.take k) = true) ∧ Hid (∃ q, wr = w1.drewN q)) (fun _ v _ _ => ws.length - (intOf v).toNat)
      case atStart => exact ⟨0, 0, rfl, Nat.zero_le _, rfl, by omega, Lib.hid (by simp [manyB]), Lib.hid (by simp [allB]), Lib.hid ⟨0, rfl⟩⟩
      case round =>
        obtain ⟨k, mm, rfl, hk, rfl, hmm, HM, HA, HW⟩ := hrel
        have HBw : Hid (Below w.heap.size w wr) := Lib.hid (by obtain ⟨q, rfl⟩ := HW.out; exact HB1.out.trans ⟨rfl, rfl, rfl, Nat.le_refl _, fun _ _ => rfl⟩)
        by_cases hlt : k < ws.length
        · have HXk := Lib.hid (List.getElem?_eq_getElem hlt)
          obtain ⟨ys, hys⟩ : ∃ ys, ys = ws[k] := ⟨_, rfl⟩
          rw [← hys] at HXk
          have hyb := HWb.out ys (List.mem_of_getElem? HXk.out)
          obtain ⟨ga, capa, hga, hcells⟩ := HWR.out.outer
          injection hga with hg1 _ hcc
          subst hcc
          injection hg1 with hg2
          injection hg2 with hg3 _ _
          subst hg3
          obtain ⟨ay, byy, cy, hcy, hsy⟩ := hcells k ys HXk.out
          have hcw : wr.cell? ⟨g, k, none⟩ = some (.slice ay ys.length cy) := by obtain ⟨q, rfl⟩ := HW.out; exact hcy
          have HSy : Hid (Src w1 ay byy 0 ys) := hsy
          have hyl := hyb.1
          have HYt := Lib.hid hyb.2
          have HMt : Hid (manyB (ws.take (k + 1)) = mm + ys.length + 1 ∧ mm + ys.length + 1 ≤ 1000) := Lib.hid (by
            have h1 := manyB_take ws k ys HXk.out
            have h2 := manyB_take_le ws (k + 1)
            have h3 := HBd.out
            rw [HM.out]
            omega)
          have hml : mm + ys.length + 1 ≤ 1000 := HMt.out.2
          have j0 : (0 : Int) ≤ (k : Int) := by omega
          have j1 : (k : Int) < (ws.length : Int) := by omega
          have HCy : Hid (w1.cell? ⟨g, k, none⟩ = some (.slice ay ys.length cy)) := hcy
          clear hys hcy hsy hcells hyb
          go_wp2
          go_loopw [6] (fun v wq => ∃ i : Nat, v = .int .i64 i ∧ i ≤ ys.length ∧ Hid (∀ x ∈ ys.take i, marksL (bl x) = true) ∧ Hid (∃ q, wq = w1.drewN q)) (fun v _ => ys.length - (intOf v).toNat)
          case atStart => exact ⟨0, rfl, Nat.zero_le _, Lib.hid (by simp), HW⟩
          case round =>
            obtain ⟨i, rfl, hi, HI, HWq⟩ := hrel
            have HBq : Hid (Below w.heap.size w wr) := Lib.hid (by obtain ⟨q, rfl⟩ := HWq.out; exact HB1.out.trans ⟨rfl, rfl, rfl, Nat.le_refl _, fun _ _ => rfl⟩)
            have hcq : wr.cell? ⟨g, k, none⟩ = some (.slice ay ys.length cy) := by obtain ⟨q, rfl⟩ := HWq.out; exact HCy.out
            by_cases hlti : i < ys.length
            · obtain rfl := HSy.out.1 (by omega)
              have hcell : wr.cell? ⟨byy, i, none⟩ = some (.string ys[i]) := by
                obtain ⟨q, rfl⟩ := HWq.out
                have := HSy.out.2 i _ (List.getElem?_eq_getElem hlti)
                rw [Nat.zero_add] at this
                exact this
              have hxm := HYt.out _ (List.getElem_mem hlti)
              have HXi := Lib.hid (List.getElem?_eq_getElem hlti)
              generalize ys[i] = x at hcell hxm HXi
              have HMk := Lib.hid fun w => smarks_any x w (by unfold maxLen; omega)
              have i0 : (0 : Int) ≤ (i : Int) := by omega
              have i1 : (i : Int) < (ys.length : Int) := by omega
              clear hxm
              by_cases hmk : marksL (bl x) = true
              · have HM2 := Lib.hid fun w => val_eqS (v' := .bool true) (HMk.out w) (by rw [hmk])
                have HN : Hid (∀ x ∈ ys.take (i + 1), marksL (bl x) = true) := Lib.hid (fun y hy => by
                  rw [List.take_add_one, HXi.out] at hy
                  rcases List.mem_append.1 hy with h | h
                  · exact HI.out y h
                  · simp at h; subst h; exact hmk)
                clear hmk HMk
                go_wp2_with fail
                refine (HM2.out _).mono ?_
                rintro e w3 ⟨rfl, q3, rfl⟩
                go_wp2
                go_roundw
                case rel => exact ⟨i + 1, by go_num, by omega, HN, Lib.hid (by obtain ⟨q, rfl⟩ := HWq.out; exact ⟨q + q3, by rw [World.drewN_drewN]⟩)⟩
                case measure => simp [intOf]; omega
              · have HM2 := Lib.hid fun w => val_eqS (v' := .bool false) (HMk.out w) (by simp [hmk])
                have HR : Hid ((pieces (bl s)).isSome = false) := Lib.hid (by
                  rw [HRq.out]
                  have : allB ws = false := by
                    rw [Bool.eq_false_iff]
                    intro h
                    have h1 := List.all_eq_true.1 h ys (List.mem_of_getElem? HXk.out)
                    exact hmk (List.all_eq_true.1 h1 x (List.mem_of_getElem? HXi.out))
                  rw [this]; rfl)
                clear hmk HMk
                go_wp2_with fail
                refine (HM2.out _).mono ?_
                rintro e w3 ⟨rfl, q3, rfl⟩
                go_wp2
                go_ret
                exact ⟨by rw [HR.out]; rfl, HBq.out.trans ⟨rfl, rfl, rfl, Nat.le_refl _, fun _ _ => rfl⟩⟩
            · have HA2 : Hid (allB (ws.take (k + 1)) = true) := Lib.hid (by
                have h1 := HI.out
                rw [List.take_of_length_le (by omega)] at h1
                unfold allB at *
                rw [List.take_add_one, HXk.out, List.all_append]
                have h2 := HA.out
                unfold allB at h2
                rw [h2]
                simpa using h1)
              have HMe := Lib.hid HMt.out.1
              go_wp2
              go_roundw
              case rel => exact ⟨k + 1, mm + ys.length + 1, by go_num, by omega, by congr 1, hml, Lib.hid HMe.out.symm, HA2, HWq⟩
              case measure => simp [intOf]; omega
        · have HR : Hid ((pieces (bl s)).isSome = decide ((mm : Int) - 1 ≤ 12)) := Lib.hid (by
            have h1 := HA.out
            have h2 := HM.out
            rw [List.take_of_length_le (by omega)] at h1 h2
            rw [HRq.out, h1, ← h2, Bool.true_and]
            exact decide_eq_decide.2 (by omega))
          go_wp2
          go_ret
          exact ⟨by rw [HR.out]; rfl, HBw.out⟩

end Go.Proofs.Ytgdiffdpjpkleaa
