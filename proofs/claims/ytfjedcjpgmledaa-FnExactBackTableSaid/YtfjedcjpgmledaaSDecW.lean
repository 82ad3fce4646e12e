/-
  DecodeSignal of the model; both answer alike. Used by the claims on chapter 2.
-/
import Derived.Test.YtfjedcjpgmledaaDecW
import Derived.Test.YtfjedcjpgmledaaSigB
namespace Go.Proofs.Ytfjedcjpgmledaa
open Go.RowKit
set_option linter.unusedVariables false

theorem ba_app (l r : Bs) : ba l ++ ba r = ba (l ++ r) := by unfold ba; apply ByteArray.ext; simp
theorem ba_len (l : Bs) : (ba l).size = l.length := ba_size l

/-- What is left behind k words: a gap ahead of each further word. -/
def tailF (WL : List (List Bs)) (k : Nat) : List Bs := if k = 0 then flat WL else if k < WL.length then [47] :: flat (WL.drop k) else []
theorem tailF_word (WL : List (List Bs)) (k : Nat) (y : List Bs) (h : WL[k]? = some y) : flat (WL.drop k) = y ++ tailF WL (k + 1) := by
  obtain ⟨hl, e⟩ := List.getElem?_eq_some_iff.1 h
  rw [List.drop_eq_getElem_cons hl, e]
  unfold tailF
  rw [if_neg (by omega)]
  by_cases h1 : k + 1 < WL.length
  · rw [if_pos h1, flat_cons _ _ (by intro e2; have := congrArg List.length e2; simp at this; omega)]
  · rw [if_neg h1, List.drop_of_length_le (by omega)]
    simp [flat]
theorem WRead.below {W W' : World} {v : Value} {ws : List (List ByteArray)} (h : WRead W v ws) (hb : Below W.heap.size W W') : WRead W' v ws := by
  obtain ⟨g, cap, hv, hc⟩ := h.outer
  refine ⟨g, cap, hv, fun i ys hy => ?_⟩
  obtain ⟨a, b, c, h1, h2⟩ := hc i ys hy
  exact ⟨a, b, c, (hb.cell (p := ⟨g, i, none⟩) (World.block_lt_of_cell? _ _ h1)).trans h1, h2.below hb⟩

theorem letterT_any (j : Nat) (hj : j < 10) (w : World) : Calls Try.prog 108 #[.int .i64 j] w fun e w' => e = .returned (.string (ba [UInt8.ofNat (97 + j)])) ∧ Below w.heap.size w w' := by
  have HC97 : Hid (((UInt8.ofNat (97 + j)).toNat : Int) = 97 + (j : Int)) := Lib.hid (by rw [toNat_97 hj]; omega)
  have u2 : IntKind.u8.wrap (97 + (j : Int)) = 97 + (j : Int) := by rw [IntKind.wrap_u8]; omega
  have hcv : (convert 22 9 (.slice (some ⟨w.heap.size, 0, none⟩) 1 1)).run Try.prog (w.alloc (.cells #[.int .u8 (97 + (j : Int))] 5)) = .ok (.string (ba [UInt8.ofNat (97 + j)])) (w.alloc (.cells #[.int .u8 (97 + (j : Int))] 5)) := by
    refine run_convert_bytes_back (P := Try.prog) (w.alloc (.cells #[.int .u8 (97 + (j : Int))] 5)) 22 9 5 ⟨w.heap.size, 0, none⟩ 1 [UInt8.ofNat (97 + j)] Try.underlying22 Try.underlying5 Try.underlying9 (fun k hk => ?_)
    obtain rfl : k = 0 := by simpa using hk
    have := cell_new w (.int .u8 (97 + (j : Int))) 5
    rw [Addr.add_lit]
    simp only [List.getElem_cons_zero, HC97.out]
    exact this
  generalize ba [UInt8.ofNat (97 + j)] = z at hcv ⊢
  go_enter Try.func108, Try.ntmps108
  go_wp2
  go_ret
  exact ⟨rfl, below_alloc _ _⟩

theorem split_le (t : ByteArray) (b : UInt8) : ∀ x ∈ splitS t b, x.size ≤ t.size := by
  intro x hx
  have h1 := len_split b (bl t)
  rw [← splitS_L, bl_len] at h1
  have h2 : ∀ xs : List ByteArray, x ∈ xs → x.size + 1 ≤ ((xs.map bl).map (fun y => y.length + 1)).sum := by
    intro xs
    induction xs with
    | nil => intro h; cases h
    | cons y r ih =>
      intro h
      simp only [List.map_cons, List.sum_cons]
      rcases List.mem_cons.1 h with rfl | h
      · rw [bl_len]; omega
      · have := ih h; omega
  have := h2 _ hx
  omega

set_option maxHeartbeats 8000000 in
set_option maxRecDepth 20000 in
theorem sDecode_any (a : Option Addr) (b o c : Nat) (xs : List ByteArray) (s : ByteArray) (w : World) (h : ListIn w a b o xs) (ht : tableB xs = true) (hs : s.size ≤ 1048576) :
    Calls Try.prog 91 #[.agg #[.slice a xs.length c], .string s] w fun e w' => e = .returned (.tuple #[.string (decR xs s).1, .bool (decR xs s).2]) ∧ Below w.heap.size w w' := by
  have hl := h.len
  have HS := Lib.hid h
  have hx10 := ((tableB_iff xs).1 ht).1
  have hb0 := below_alloc w (.cells #[.slice a xs.length c] 26)
  have hc0 := cell_new w (.slice a xs.length c) 26
  have e0 : (w.alloc (.cells #[.slice a xs.length c] 26)).heap.size = w.heap.size + 1 := by simp
  have K := Lib.hid (And.intro hb0 (And.intro hc0 e0))
  have S := Lib.hid fun w => sSignal_any s w hs
  have HT := Lib.hid ht
  clear h hb0 hc0 e0 ht
  cases hps : pieces (bl s) with
  | none =>
    have HR := Lib.hid (decR_none (xs := xs) (s := s) (by unfold decL; rw [hps]))
    have S2 := Lib.hid fun w => val_eqS (v' := .bool false) (S.out w) (by rw [hps]; rfl)
    clear hps S
    go_enter Try.func91, Try.ntmps91
    go_wp2_with fail
    refine (S2.out _).mono ?_
    rintro e w1 ⟨rfl, hb⟩
    have HB1 := Lib.hid (K.out.1.trans (hb.mono (by rw [K.out.2.2]; omega)))
    clear hb
    go_wp2
    go_ret2
    exact ⟨by rw [HR.out]; rfl, HB1.out⟩
  | some ps =>
    have S2 := Lib.hid fun w => val_eqS (v' := .bool true) (S.out w) (by rw [hps]; rfl)
    have HDl : Hid (decL (xs.map bl) (bl s) = decP (xs.map bl) ps) := Lib.hid (by unfold decL; rw [hps])
    by_cases hnil : s.size = 0
    · have hE : bl s = [] := List.length_eq_zero_iff.1 (by rw [bl_len]; exact hnil)
      have heq : s.toList.isEmpty = true := by
        rw [ByteArray.toList_eq]
        show (bl s).isEmpty = true
        rw [hE]; rfl
      have HR : Hid (decR xs s = (⟨#[]⟩, true)) := Lib.hid (by
        have h1 : decL (xs.map bl) (bl s) = some [] := by rw [hE]; rfl
        exact decR_some HT.out h1)
      clear hE hps S
      go_enter Try.func91, Try.ntmps91
      go_wp2_with fail
      refine (S2.out _).mono ?_
      rintro e w1 ⟨rfl, hb⟩
      have HB1 := Lib.hid (K.out.1.trans (hb.mono (by rw [K.out.2.2]; omega)))
      clear hb
      go_wp2
      go_ret2
      exact ⟨by rw [HR.out]; rfl, HB1.out⟩
    · have hne : bl s ≠ [] := fun e => hnil (by rw [← bl_len, e]; rfl)
      have heq : s.toList.isEmpty = false := by
        rw [ByteArray.toList_eq]
        show (bl s).isEmpty = false
        cases h : bl s with
        | nil => exact absurd h hne
        | cons _ _ => rfl
      have hpw := pieces_words (bl s) hne
      rw [hps] at hpw
      have hcond : (bl s).length ≤ 72 ∧ allMk (wordsL (bl s)) = true ∧ many (wordsL (bl s)) ≤ 13 := Classical.byContradiction (fun hn => by rw [if_neg hn] at hpw; cases hpw)
      rw [if_pos hcond] at hpw
      have h72 : s.size ≤ 72 := by have := hcond.1; rwa [bl_len] at this
      have G := Lib.hid fun w => words_any s w h72
      obtain ⟨ws, hws⟩ : ∃ ws, ws = wordsB s := ⟨_, rfl⟩
      have HPs : Hid (ps = flat (ws.map (fun w => w.map bl))) := Lib.hid (by rw [hws, wordsB_L]; exact Option.some.inj hpw)
      have HAll : Hid (allB ws = true) := Lib.hid (by rw [hws, allB_L]; exact hcond.2.1)
      have HWb : Hid (∀ ys ∈ ws, ys.length ≤ 73 ∧ ∀ x ∈ ys, x.size ≤ 72) := Lib.hid (by
        intro ys hy
        rw [hws] at hy
        unfold wordsB at hy
        obtain ⟨t, ht, rfl⟩ := List.mem_map.1 hy
        have h1 := split_le s 47 t ht
        have h2 := (splitS_len t 32).2
        refine ⟨by omega, fun x hx => ?_⟩
        have := split_le t 32 x hx
        omega)
      have hwl : 0 < ws.length ∧ ws.length ≤ 73 := by
        rw [hws, wordsB_len]
        have := splitS_len s 47
        omega
      rw [← hws] at G
      clear hne hpw hcond hws hps S hnil
      go_enter Try.func91, Try.ntmps91
      go_wp2_with fail
      refine (S2.out _).mono ?_
      rintro e w1 ⟨rfl, hb⟩
      have HB1 := Lib.hid (K.out.1.trans (hb.mono (by rw [K.out.2.2]; omega)))
      have hc1 : w1.cell? ⟨w.heap.size, 0, none⟩ = some (.slice a xs.length c) := (hb.cell (p := ⟨w.heap.size, 0, none⟩) (by rw [K.out.2.2]; show w.heap.size < _; omega)).trans K.out.2.1
      clear hb
      go_wp2_with fail
      refine (G.out w1).mono ?_
      rintro e w2 ⟨v, vs, rfl, hown, hwa, hb⟩
      have HWR := Lib.hid (wread_of hown hwa hwl.1)
      have HB2 := Lib.hid (HB1.out.trans (hb.mono HB1.out.size))
      have hc2 : w2.cell? ⟨w.heap.size, 0, none⟩ = some (.slice a xs.length c) := (hb.cell (p := ⟨w.heap.size, 0, none⟩) (World.block_lt_of_cell? _ _ hc1)).trans hc1
      have HC2 := Lib.hid hc2
      obtain ⟨g, cap, rfl, _⟩ := HWR.out.outer
      clear hown hwa hb hc1 hc2
      go_wp2
      go_loopw [6, 8, 9, 10] (fun vm v vk vl wr => ∃ (k : Nat) (m : Bs), v = .int .i64 k ∧ k ≤ ws.length ∧ vm = .string (ba m) ∧ m.length ≤ 100 * k ∧ Hid (Below w.heap.size w wr) ∧ Hid (wr.cell? ⟨w.heap.size, 0, none⟩ = some (.slice a xs.length c)) ∧ Hid (WRead wr (.slice (some ⟨g, 0, none⟩) ws.length cap) ws) ∧ Hid ((decP (xs.map bl) (tailF (ws.map (fun w => w.map bl)) k)).map (m ++ ·) = decP (xs.map bl) ps)) (fun _ v _ _ _ => ws.length - (intOf v).toNat)
      case atStart => exact ⟨0, [], rfl, Nat.zero_le _, rfl, Nat.zero_le _, HB2, HC2, HWR, Lib.hid (by rw [HPs.out]; simp [tailF])⟩
      case round =>
        obtain ⟨k, m, rfl, hk, rfl, hm, HB, HC, HW, HD⟩ := hrel
        by_cases hlt : k < ws.length
        · have HXk := Lib.hid (List.getElem?_eq_getElem hlt)
          obtain ⟨ys, hys⟩ : ∃ ys, ys = ws[k] := ⟨_, rfl⟩
          rw [← hys] at HXk
          have hyb := HWb.out ys (List.mem_of_getElem? HXk.out)
          have HYm : Hid (∀ x ∈ ys, marksL (bl x) = true) := Lib.hid (fun x hx => by
            have h1 := List.all_eq_true.1 HAll.out ys (List.mem_of_getElem? HXk.out)
            exact List.all_eq_true.1 h1 x hx)
          have hyl := hyb.1
          have HYt := Lib.hid hyb.2
          have j0 : (0 : Int) ≤ (k : Int) := by omega
          have j1 : (k : Int) < (ws.length : Int) := by omega
          have HTw : Hid (flat ((ws.map (fun w => w.map bl)).drop k) = ys.map bl ++ tailF (ws.map (fun w => w.map bl)) (k + 1)) := Lib.hid (tailF_word _ k _ (by rw [List.getElem?_map, HXk.out]; rfl))
          obtain ⟨m2, hm2⟩ : ∃ m2, m2 = m ++ (if k = 0 then [] else [32]) := ⟨_, rfl⟩
          have hm2l : m2.length ≤ 100 * k + 1 := by rw [hm2]; split <;> simp <;> omega
          have HD2 : Hid ((decP (xs.map bl) (ys.map bl ++ tailF (ws.map (fun w => w.map bl)) (k + 1))).map (m2 ++ ·) = decP (xs.map bl) ps) := Lib.hid (by
            rw [← HTw.out, ← HD.out, hm2]
            unfold tailF
            by_cases hk0 : k = 0
            · rw [if_pos hk0, if_pos hk0, hk0]; simp
            · rw [if_neg hk0, if_neg hk0, if_pos (by rw [List.length_map]; exact hlt), decP_slash])
          have HM2 := Lib.hid hm2
          have hcat1 : ¬ 9223372036854775807 < m.length + 1 := by omega
          clear hys hyb hm2
          by_cases hk0 : k = 0
          all_goals
            first
              | (have hgt : ¬ (0 : Int) < (k : Int) := by omega
                 have HMv : Hid (ba m = ba m2) := Lib.hid (by rw [HM2.out, if_pos hk0, List.append_nil]))
              | (have hgt : (0 : Int) < (k : Int) := by omega
                 have hkN : 0 < k := by omega
                 have HMv : Hid (ba m ++ ⟨#[32]⟩ = ba m2) := Lib.hid (by rw [HM2.out, if_neg hk0]; exact ba_app m [32]))
          all_goals (
            clear hk0
            have hbs : (ba m).size = m.length := ba_len m
            go_wp2
            go_loopw [6, 9, 10] (fun vm v vl wq => ∃ (i : Nat) (t : Bs), v = .int .i64 i ∧ i ≤ ys.length ∧ vm = .string (ba t) ∧ t.length ≤ 100 * k + 1 + i ∧ Hid (Below w.heap.size w wq) ∧ Hid (wq.cell? ⟨w.heap.size, 0, none⟩ = some (.slice a xs.length c)) ∧ Hid (WRead wq (.slice (some ⟨g, 0, none⟩) ws.length cap) ws) ∧ Hid ((decP (xs.map bl) ((ys.map bl).drop i ++ tailF (ws.map (fun w => w.map bl)) (k + 1))).map (t ++ ·) = decP (xs.map bl) ps)) (fun _ v _ _ => ys.length - (intOf v).toNat)
            case atStart => exact ⟨0, m2, rfl, Nat.zero_le _, by first | rfl | rw [HMv.out], by omega, HB, HC, HW, Lib.hid (by simpa using HD2.out)⟩
            case round =>
              obtain ⟨i, t, rfl, hi, rfl, htl, HBq, HCq, HWq, HDq⟩ := hrel
              have hcb := HCq.out
              obtain ⟨ga, capa, hga, hcells⟩ := HWq.out.outer
              injection hga with hg1 _ hcc
              subst hcc
              injection hg1 with hg2
              injection hg2 with hg3 _ _
              subst hg3
              obtain ⟨ay, byy, cy, hcy, hsy⟩ := hcells k ys HXk.out
              by_cases hlti : i < ys.length
              · obtain rfl := hsy.1 (by omega)
                have hcell : wr.cell? ⟨byy, i, none⟩ = some (.string ys[i]) := by
                  have := hsy.2 i _ (List.getElem?_eq_getElem hlti)
                  rw [Nat.zero_add] at this
                  exact this
                have HXi := Lib.hid (List.getElem?_eq_getElem hlti)
                have HDi : Hid ((ys.map bl).drop i = bl ys[i] :: (ys.map bl).drop (i + 1)) := Lib.hid (by
                  rw [List.drop_eq_getElem_cons (by simpa using hlti), List.getElem_map])
                have hxmk := HYm.out _ (List.getElem_mem hlti)
                generalize ys[i] = x at hcell HXi HDi hxmk
                have HPl := Lib.hid fun q => place_any a b o c xs x (wr.drewN q) (HS.out.below (HBq.out.trans ⟨rfl, rfl, rfl, Nat.le_refl _, fun _ _ => rfl⟩)).src hl
                have HNs : Hid (bl x ≠ [47]) := Lib.hid (fun e => by rw [e] at hxmk; exact absurd hxmk (by decide))
                have i0 : (0 : Int) ≤ (i : Int) := by omega
                have i1 : (i : Int) < (ys.length : Int) := by omega
                clear hxmk hsy hcells
                cases hp : placeB xs x with
                | none =>
                  have HP2 := Lib.hid fun q => val_eq (v' := .int .i64 (-1)) (HPl.out q) (by rw [hp]; rfl)
                  have HR := Lib.hid (decR_none (xs := xs) (s := s) (by
                    rw [HDl.out, ← HDq.out, HDi.out, List.cons_append, decP_none HNs.out hp]; rfl))
                  clear hp HPl
                  go_wp2
                  go_quiet ((go_at_call 75; exact Calls.quiet_of_same (HP2.out _)))
                  go_wp2
                  go_ret2
                  exact ⟨by rw [HR.out]; rfl, HBq.out.trans ⟨rfl, rfl, rfl, Nat.le_refl _, fun _ _ => rfl⟩⟩
                | some jj =>
                  have HP2 := Lib.hid fun q => val_eq (v' := .int .i64 jj) (HPl.out q) (by rw [hp]; rfl)
                  have hj10 : jj < 10 := by
                    have := (List.getElem?_eq_some_iff.1 (placeB_some.1 hp).1).1
                    omega
                  have HL := Lib.hid fun w => letterT_any jj hj10 w
                  have HN : Hid ((decP (xs.map bl) ((ys.map bl).drop (i + 1) ++ tailF (ws.map (fun w => w.map bl)) (k + 1))).map ((t ++ [UInt8.ofNat (97 + jj)]) ++ ·) = decP (xs.map bl) ps) := Lib.hid (by
                    rw [← decP_some HNs.out hp, ← List.cons_append, ← HDi.out]; exact HDq.out)
                  have HCat := Lib.hid (ba_app t [UInt8.ofNat (97 + jj)])
                  have hz1 : (ba t).size = t.length := ba_len t
                  have hz2 : (ba [UInt8.ofNat (97 + jj)]).size = 1 := by rw [ba_len]; rfl
                  have hcat : ¬ 9223372036854775807 < t.length + 1 := by omega
                  generalize ba [UInt8.ofNat (97 + jj)] = L at HL HCat hz2
                  clear hp HPl
                  go_wp2
                  go_quiet ((go_at_call 75; exact Calls.quiet_of_same (HP2.out _)))
                  have HBd : Hid (Below w.heap.size w (wr.drewN nq)) := Lib.hid (HBq.out.trans ⟨rfl, rfl, rfl, Nat.le_refl _, fun _ _ => rfl⟩)
                  have HCd : Hid ((wr.drewN nq).cell? ⟨w.heap.size, 0, none⟩ = some (.slice a xs.length c)) := HCq
                  have HWd := Lib.hid (HWq.out.drewN nq)
                  go_wp2_with fail
                  refine (HL.out _).mono ?_
                  rintro e w5 ⟨rfl, hb⟩
                  have HB5 := Lib.hid (HBd.out.trans (hb.mono HBd.out.size))
                  have HC5 := Lib.hid ((hb.cell (p := ⟨w.heap.size, 0, none⟩) (World.block_lt_of_cell? _ _ HCd.out)).trans HCd.out)
                  have HW5 := Lib.hid (HWd.out.below hb)
                  clear hb
                  go_wp2
                  go_roundw
                  case rel => exact ⟨i + 1, t ++ [UInt8.ofNat (97 + jj)], by go_num, by omega, by rw [HCat.out], by simp; omega, HB5, HC5, HW5, HN⟩
                  case measure => simp [intOf]; omega
              · have HN : Hid ((decP (xs.map bl) (tailF (ws.map (fun w => w.map bl)) (k + 1))).map (t ++ ·) = decP (xs.map bl) ps) := Lib.hid (by
                  have h1 := HDq.out
                  rwa [List.drop_of_length_le (by rw [List.length_map]; omega), List.nil_append] at h1)
                have htk : t.length ≤ 100 * (k + 1) := by omega
                go_wp2
                go_roundw
                case rel => exact ⟨k + 1, t, by go_num, by omega, rfl, htk, HBq, HCq, HWq, HN⟩
                case measure => simp [intOf]; omega)
        · have HE : Hid (decR xs s = (ba m, true)) := Lib.hid (by
            refine decR_some HT.out ?_
            have h1 := HD.out
            have h2 : tailF (ws.map (fun w => w.map bl)) k = [] := by
              unfold tailF
              rw [if_neg (by omega), if_neg (by rw [List.length_map]; omega)]
            rw [h2] at h1
            rw [HDl.out, ← h1]
            simp [decP])
          go_wp2
          go_ret2
          exact ⟨by rw [HE.out]; rfl, HB.out⟩

set_option maxHeartbeats 2000000 in
theorem sDecodeSig_any (a : Option Addr) (b o c : Nat) (xs : List ByteArray) (s : ByteArray) (w : World) (h : ListIn w a b o xs) (hs : s.size ≤ 1048576) :
    Calls Try.prog 53 #[.agg #[.slice a xs.length c], .string s] w fun e w' => e = .returned (.tuple #[.string (decR xs s).1, .bool (decR xs s).2]) ∧ Below w.heap.size w w' := by
  have hl := h.len
  have F := Lib.hid fun ob => stable_any a b o c xs (w.alloc ob) (h.below (below_alloc w ob))
  have HS := Lib.hid h
  clear h
  by_cases ht : tableB xs = true
  · have F2 := Lib.hid fun ob => val_eq (v' := .bool true) (F.out ob) (by rw [ht])
    have G := Lib.hid fun w1 hb => sDecode_any a b o c xs s w1 (HS.out.below (w' := w1) hb) ht hs
    clear ht F
    go_enter Try.func53, Try.ntmps53
    go_wp2_with fail
    refine (F2.out _).mono ?_
    rintro e w1 ⟨rfl, hb⟩
    have hc1 : w1.cell? ⟨w.heap.size, 0, none⟩ = some (.slice a xs.length c) := (hb.cell (p := ⟨w.heap.size, 0, none⟩) (by simp)).trans (cell_new _ _ _)
    have HB := Lib.hid ((below_alloc w (.cells #[.slice a xs.length c] 26)).trans (hb.mono (by simp)))
    clear hb
    go_wp2_with fail
    refine (G.out w1 HB.out).mono ?_
    rintro e w2 ⟨rfl, hb⟩
    have HB2 := Lib.hid (HB.out.trans (hb.mono HB.out.size))
    clear hb
    go_wp2
    go_ret2
    exact ⟨rfl, HB2.out⟩
  · have F2 := Lib.hid fun ob => val_eq (v' := .bool false) (F.out ob) (by simp [ht])
    have HR := Lib.hid (decR_not (s := s) (show tableB xs = false by simpa using ht))
    clear ht F
    go_enter Try.func53, Try.ntmps53
    go_wp2_with fail
    refine (F2.out _).mono ?_
    rintro e w1 ⟨rfl, hb⟩
    have HB := Lib.hid ((below_alloc w (.cells #[.slice a xs.length c] 26)).trans (hb.mono (by simp)))
    clear hb
    go_wp2
    go_ret2
    exact ⟨by rw [HR.out]; rfl, HB.out⟩

theorem decodeSignal_both (xs : List ByteArray) (s : ByteArray) (hl : xs.length ≤ 1048576) (ht : ∀ x ∈ xs, x.size ≤ 1048576) (hs : s.size ≤ 1048576) : ∃ (R0 : ByteArray) (R1 : Bool),
    Hid (∀ W a b o c, ListIn W a b o xs → Calls Try.prog 53 #[.agg #[.slice a xs.length c], .string s] W fun e W' => e = .returned (.tuple #[.string R0, .bool R1]) ∧ Below W.heap.size W W') ∧
    Hid (∀ W a b o c, ListIn W a b o xs → Calls Try.prog 54 #[.agg #[.slice a xs.length c], .string s] W fun e W' => e = .returned (.tuple #[.string R0, .bool R1]) ∧ Below W.heap.size W W') :=
  ⟨_, _, fun W a b o c h => sDecodeSig_any a b o c xs s W h hs, fun W a b o c h => decode_any a b o c xs s W h hs⟩
end Go.Proofs.Ytfjedcjpgmledaa
