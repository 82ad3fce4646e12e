/-
  ReadWithMistakes of the model; both answer alike. Used by the claims on chapter 6.
-/
import Derived.Test.YtgdiffdpjpkleaaRwW
import Derived.Test.YtgdiffdpjpkleaaSDecW
namespace Go.Proofs.Ytgdiffdpjpkleaa
open Go.RowKit Go.Maps
set_option linter.unusedVariables false

theorem rwM_cons (xs : List ByteArray) (p : Bs) (ps : List Bs) : rwM xs (p :: ps) = chQ xs p :: rwM xs ps := by simp [rwM]
theorem rwS_cons (xs : List ByteArray) (p : Bs) (ps : List Bs) : rwS xs (p :: ps) = suQ xs p + rwS xs ps := by simp [rwS]
/-- What is read so far, and what is left. -/
def leftQ (xs : List ByteArray) (ps : List Bs) (m : Bs) (z : Nat) (r : List Bs) : Prop := rwM xs ps = m ++ rwM xs r ∧ rwS xs ps = z + rwS xs r
theorem leftQ_slash {xs : List ByteArray} {ps : List Bs} {m : Bs} {z : Nat} {r : List Bs} (h : leftQ xs ps m z ([47] :: r)) : leftQ xs ps (m ++ [32]) z r := by
  unfold leftQ at h ⊢
  rw [rwM_cons, rwS_cons] at h
  have h1 : chQ xs [47] = 32 := if_pos rfl
  have h2 : suQ xs [47] = 0 := if_pos rfl
  rw [h1, h2] at h
  exact ⟨by rw [h.1]; simp, by rw [h.2]; omega⟩
theorem leftQ_marks {xs : List ByteArray} {ps : List Bs} {m : Bs} {z : Nat} {p : Bs} {r : List Bs} (hp : p ≠ [47]) (h : leftQ xs ps m z (p :: r)) : leftQ xs ps (m ++ [UInt8.ofNat (97 + headN (nearAll xs p))]) (z + nearMin xs p) r := by
  unfold leftQ at h ⊢
  rw [rwM_cons, rwS_cons] at h
  have h1 : chQ xs p = UInt8.ofNat (97 + headN (nearAll xs p)) := if_neg hp
  have h2 : suQ xs p = nearMin xs p := if_neg hp
  rw [h1, h2] at h
  exact ⟨by rw [h.1]; simp, by rw [h.2]; omega⟩

set_option maxHeartbeats 8000000 in
set_option maxRecDepth 20000 in
theorem sReadWith_any (a : Option Addr) (b o c : Nat) (xs : List ByteArray) (s : ByteArray) (w : World) (h : ListIn w a b o xs) (hs : s.size ≤ 1048576) :
    Calls Try.prog 42 #[.agg #[.slice a xs.length c], .string s] w fun e w' => e = .returned (.tuple #[.string (rwB xs s), .int .i64 (rwZ xs s), .bool (rwOk xs s)]) ∧ Below w.heap.size w w' := by
  have hl := h.len
  have HS := Lib.hid h
  have hb0 := below_alloc w (.cells #[.slice a xs.length c] 32)
  have hc0 := cell_new w (.slice a xs.length c) 32
  have e0 : (w.alloc (.cells #[.slice a xs.length c] 32)).heap.size = w.heap.size + 1 := by simp
  have K := Lib.hid (And.intro hb0 (And.intro hc0 e0))
  have S := Lib.hid fun w => sSignal_any s w hs
  have FT := Lib.hid fun w1 hb => stable_any a b o c xs w1 (HS.out.below (w' := w1) hb)
  clear h hb0 hc0 e0
  by_cases ht : tableB xs = true
  · have F2 := Lib.hid fun w1 hb => val_eq (v' := .bool true) (FT.out w1 hb) (by rw [ht])
    have HT := Lib.hid ht
    clear ht FT
    cases hps : pieces (bl s) with
    | none =>
      have HR := Lib.hid (rw_none (xs := xs) (s := s) hps)
      have S2 := Lib.hid fun w => val_eqS (v' := .bool false) (S.out w) (by rw [hps]; rfl)
      rw [HR.out.1, HR.out.2.1, HR.out.2.2]
      clear hps S
      go_enter Try.func42, Try.ntmps42
      go_wp2_with fail
      refine (F2.out _ K.out.1).mono ?_
      rintro e w1 ⟨rfl, hb⟩
      have HB1 := Lib.hid (K.out.1.trans (hb.mono (by rw [K.out.2.2]; omega)))
      clear hb
      go_wp2_with fail
      refine (S2.out _).mono ?_
      rintro e w2 ⟨rfl, hb⟩
      have HB2 := Lib.hid (HB1.out.trans (hb.mono HB1.out.size))
      clear hb
      go_wp2
      go_ret3
      exact ⟨rfl, HB2.out⟩
    | some ps =>
      have S2 := Lib.hid fun w => val_eqS (v' := .bool true) (S.out w) (by rw [hps]; rfl)
      have HR := Lib.hid (rw_some HT.out hps)
      rw [HR.out.1, HR.out.2.1, HR.out.2.2]
      by_cases hnil : s.size = 0
      · have hE : bl s = [] := List.length_eq_zero_iff.1 (by rw [bl_len]; exact hnil)
        have heq : s.toList.isEmpty = true := by
          rw [ByteArray.toList_eq]
          show (bl s).isEmpty = true
          rw [hE]; rfl
        have hpe : ps = [] := by
          rw [hE] at hps
          exact (Option.some.inj hps).symm
        subst hpe
        clear hE hps S
        go_enter Try.func42, Try.ntmps42
        go_wp2_with fail
        refine (F2.out _ K.out.1).mono ?_
        rintro e w1 ⟨rfl, hb⟩
        have HB1 := Lib.hid (K.out.1.trans (hb.mono (by rw [K.out.2.2]; omega)))
        clear hb
        go_wp2_with fail
        refine (S2.out _).mono ?_
        rintro e w2 ⟨rfl, hb⟩
        have HB2 := Lib.hid (HB1.out.trans (hb.mono HB1.out.size))
        clear hb
        go_wp2
        go_ret3
        exact ⟨rfl, HB2.out⟩
      · have hne : bl s ≠ [] := fun e => hnil (by rw [← bl_len, e]; rfl)
        have heq : s.toList.isEmpty = false := by
          rw [ByteArray.toList_eq]
          show (bl s).isEmpty = false
          cases h : bl s with
          | nil => exact absurd h hne
          | cons _ _ => rfl
        have hpw := pieces_words (bl s) hne
        rw [hps] at hpw
        have hcond : (bl s).length ≤ 72 ∧ allMk (wordsL (bl s)) = true ∧ many (wordsL (bl s)) ≤ 13 := Classical.byContradiction (fun hn => by rw [if_neg hn] at hpw; cases hpw)
        rw [if_pos hcond] at hpw
        have h72 : s.size ≤ 72 := by have := hcond.1; rwa [bl_len] at this
        have G := Lib.hid fun w => words_any s w h72
        obtain ⟨ws, hws⟩ : ∃ ws, ws = wordsB s := ⟨_, rfl⟩
        have HPs : Hid (ps = flat (ws.map (fun w => w.map bl))) := Lib.hid (by rw [hws, wordsB_L]; exact Option.some.inj hpw)
        have HAll : Hid (allB ws = true) := Lib.hid (by rw [hws, allB_L]; exact hcond.2.1)
        have HWb : Hid (∀ ys ∈ ws, ys.length ≤ 73 ∧ ∀ x ∈ ys, x.size ≤ 72) := Lib.hid (by
          intro ys hy
          rw [hws] at hy
          unfold wordsB at hy
          obtain ⟨t, ht, rfl⟩ := List.mem_map.1 hy
          have h1 := split_le s 47 t ht
          have h2 := (splitS_len t 32).2
          refine ⟨by omega, fun x hx => ?_⟩
          have := split_le t 32 x hx
          omega)
        have hwl : 0 < ws.length ∧ ws.length ≤ 73 := by
          rw [hws, wordsB_len]
          have := splitS_len s 47
          omega
        rw [← hws] at G
        clear hne hpw hcond hws hps S hnil
        go_enter Try.func42, Try.ntmps42
        go_wp2_with fail
        refine (F2.out _ K.out.1).mono ?_
        rintro e w1 ⟨rfl, hb⟩
        have HB1 := Lib.hid (K.out.1.trans (hb.mono (by rw [K.out.2.2]; omega)))
        have hc1 : w1.cell? ⟨w.heap.size, 0, none⟩ = some (.slice a xs.length c) := cell_below hb K.out.2.1
        clear hb
        go_wp2_with fail
        refine (S2.out _).mono ?_
        rintro e w2 ⟨rfl, hb⟩
        have HB2 := Lib.hid (HB1.out.trans (hb.mono HB1.out.size))
        have hc2 := cell_below hb hc1
        clear hb hc1
        go_wp2_with fail
        refine (G.out w2).mono ?_
        rintro e w3 ⟨v, vs, rfl, hown, hwa, hb⟩
        have HWR := Lib.hid (wread_of hown hwa hwl.1)
        have HB3 := Lib.hid (HB2.out.trans (hb.mono HB2.out.size))
        have HC3 := Lib.hid (cell_below hb hc2)
        obtain ⟨g, cap, rfl, _⟩ := HWR.out.outer
        clear hown hwa hb hc2
        go_wp2
        go_loopw [7, 8, 10, 11, 12, 13] (fun vm vs v vk vn vf wr => ∃ (k : Nat) (m : Bs) (z : Nat), v = .int .i64 k ∧ k ≤ ws.length ∧ vm = .string (ba m) ∧ m.length ≤ 100 * k ∧ vs = .int .i64 (z : Int) ∧ z ≤ 1000 * k ∧ Hid (Below w.heap.size w wr) ∧ Hid (wr.cell? ⟨w.heap.size, 0, none⟩ = some (.slice a xs.length c)) ∧ Hid (WRead wr (.slice (some ⟨g, 0, none⟩) ws.length cap) ws) ∧ Hid (leftQ xs ps m z (tailF (ws.map (fun w => w.map bl)) k))) (fun _ _ v _ _ _ _ => ws.length - (intOf v).toNat)
        case atStart => exact ⟨0, [], 0, rfl, Nat.zero_le _, rfl, Nat.zero_le _, rfl, Nat.zero_le _, HB3, HC3, HWR, Lib.hid (by rw [HPs.out]; exact ⟨by simp [tailF], by simp [tailF]⟩)⟩
        case round =>
          obtain ⟨k, m, z, rfl, hk, rfl, hm, rfl, hz, HB, HC, HW, HD⟩ := hrel
          by_cases hlt : k < ws.length
          · have HXk := Lib.hid (List.getElem?_eq_getElem hlt)
            obtain ⟨ys, hys⟩ : ∃ ys, ys = ws[k] := ⟨_, rfl⟩
            rw [← hys] at HXk
            have hyb := HWb.out ys (List.mem_of_getElem? HXk.out)
            have HYm : Hid (∀ x ∈ ys, marksL (bl x) = true) := Lib.hid (fun x hx => by
              have h1 := List.all_eq_true.1 HAll.out ys (List.mem_of_getElem? HXk.out)
              exact List.all_eq_true.1 h1 x hx)
            have hyl := hyb.1
            have j0 : (0 : Int) ≤ (k : Int) := by omega
            have j1 : (k : Int) < (ws.length : Int) := by omega
            have HTw : Hid (flat ((ws.map (fun w => w.map bl)).drop k) = ys.map bl ++ tailF (ws.map (fun w => w.map bl)) (k + 1)) := Lib.hid (tailF_word _ k _ (by rw [List.getElem?_map, HXk.out]; rfl))
            obtain ⟨m2, hm2⟩ : ∃ m2, m2 = m ++ (if k = 0 then [] else [32]) := ⟨_, rfl⟩
            have hm2l : m2.length ≤ 100 * k + 1 := by rw [hm2]; split <;> simp <;> omega
            have HD2 : Hid (leftQ xs ps m2 z (ys.map bl ++ tailF (ws.map (fun w => w.map bl)) (k + 1))) := Lib.hid (by
              rw [← HTw.out, hm2]
              have h1 := HD.out
              unfold tailF at h1
              by_cases hk0 : k = 0
              · rw [if_pos hk0] at h1
                rw [if_pos hk0, hk0]
                simpa using h1
              · rw [if_neg hk0, if_pos (by rw [List.length_map]; exact hlt)] at h1
                rw [if_neg hk0]
                exact leftQ_slash h1)
            have HM2 := Lib.hid hm2
            have hcat1 : ¬ 9223372036854775807 < m.length + 1 := by omega
            clear hys hyb hm2
            by_cases hk0 : k = 0
            all_goals
              first
                | (have hgt : ¬ (0 : Int) < (k : Int) := by omega
                   have HMv : Hid (ba m = ba m2) := Lib.hid (by rw [HM2.out, if_pos hk0, List.append_nil]))
                | (have hgt : (0 : Int) < (k : Int) := by omega
                   have hkN : 0 < k := by omega
                   have HMv : Hid (ba m ++ ⟨#[32]⟩ = ba m2) := Lib.hid (by rw [HM2.out, if_neg hk0]; exact ba_app m [32]))
            all_goals (
              clear hk0
              have hbs : (ba m).size = m.length := ba_len m
              go_wp2
              go_loopw [7, 8, 11, 12, 13] (fun vm vs v vn vf wq => ∃ (i : Nat) (t : Bs) (y : Nat), v = .int .i64 i ∧ i ≤ ys.length ∧ vm = .string (ba t) ∧ t.length ≤ 100 * k + 1 + i ∧ vs = .int .i64 (y : Int) ∧ y ≤ 1000 * k + 5 * i ∧ Hid (Below w.heap.size w wq) ∧ Hid (wq.cell? ⟨w.heap.size, 0, none⟩ = some (.slice a xs.length c)) ∧ Hid (WRead wq (.slice (some ⟨g, 0, none⟩) ws.length cap) ws) ∧ Hid (leftQ xs ps t y ((ys.map bl).drop i ++ tailF (ws.map (fun w => w.map bl)) (k + 1)))) (fun _ _ v _ _ _ => ys.length - (intOf v).toNat)
              case atStart => exact ⟨0, m2, z, rfl, Nat.zero_le _, by first | rfl | rw [HMv.out], by omega, rfl, by omega, HB, HC, HW, Lib.hid (by simpa using HD2.out)⟩
              case round =>
                obtain ⟨i, t, y, rfl, hi, rfl, htl, rfl, hyb, HBq, HCq, HWq, HDq⟩ := hrel
                have hcb := HCq.out
                obtain ⟨ga, capa, hga, hcells⟩ := HWq.out.outer
                injection hga with hg1 _ hcc
                subst hcc
                injection hg1 with hg2
                injection hg2 with hg3 _ _
                subst hg3
                obtain ⟨ay, byy, cy, hcy, hsy⟩ := hcells k ys HXk.out
                by_cases hlti : i < ys.length
                · obtain rfl := hsy.1 (by omega)
                  have hcell : wr.cell? ⟨byy, i, none⟩ = some (.string ys[i]) := by
                    have := hsy.2 i _ (List.getElem?_eq_getElem hlti)
                    rw [Nat.zero_add] at this
                    exact this
                  have HDi : Hid ((ys.map bl).drop i = bl ys[i] :: (ys.map bl).drop (i + 1)) := Lib.hid (by
                    rw [List.drop_eq_getElem_cons (by simpa using hlti), List.getElem_map])
                  have hxmk := HYm.out _ (List.getElem_mem hlti)
                  generalize ys[i] = x at hcell HDi hxmk
                  obtain ⟨n1, n2, n3, n4, n5, n6, n7⟩ := near_facts HT.out hxmk
                  have HN : Hid (leftQ xs ps (t ++ [UInt8.ofNat (97 + headN (nearAll xs (bl x)))]) (y + nearMin xs (bl x)) ((ys.map bl).drop (i + 1) ++ tailF (ws.map (fun w => w.map bl)) (k + 1))) := Lib.hid (by
                    refine leftQ_marks (fun e => by rw [e] at hxmk; exact absurd hxmk (by decide)) ?_
                    have h1 := HDq.out
                    rwa [HDi.out, List.cons_append] at h1)
                  have HNr : Hid (∀ W, Below w.heap.size w W → Calls Try.prog 81 #[.agg #[.slice a xs.length c], .string x] W fun e w' => ∃ v, e = .returned (.tuple #[v, .int .i64 (nearMin xs (bl x) : Int)]) ∧ w'.ownsRow W.heap.size 3 1 v (nearAll xs (bl x)).length (ints (nearAll xs (bl x))) ∧ Below W.heap.size W w') := Lib.hid fun W hb => by
                    have hX : x.size ≤ 5 := (marksL_size hxmk).2
                    have := sNearest_any a b o c xs x W (HS.out.below hb) HT.out hX
                    unfold nearAll nearMin
                    rw [ba_bl]
                    exact this
                  have N7 := Lib.hid n7
                  have N5 := Lib.hid n5
                  generalize nearAll xs (bl x) = NL at HNr HN N7 N5 n6
                  generalize nearMin xs (bl x) = d at HNr HN n4
                  generalize headN NL = jj at HN N7 n6
                  have HHd : Hid ((ints NL)[0]? = some (.int .i64 (jj : Int))) := Lib.hid (by unfold ints; rw [List.getElem?_map, N7.out]; rfl)
                  have i0 : (0 : Int) ≤ (i : Int) := by omega
                  have i1 : (i : Int) < (ys.length : Int) := by omega
                  have hyl0 : (0 : Int) < (NL.length : Int) := by have := N5.out; omega
                  have HL := Lib.hid fun w => letterT_any jj n6 w
                  have HCat := Lib.hid (ba_app t [UInt8.ofNat (97 + jj)])
                  have hz1 : (ba t).size = t.length := ba_len t
                  have hz2 : (ba [UInt8.ofNat (97 + jj)]).size = 1 := by rw [ba_len]; rfl
                  have hcat : ¬ 9223372036854775807 < t.length + 1 := by omega
                  generalize ba [UInt8.ofNat (97 + jj)] = L at HL HCat hz2
                  clear hxmk hsy hcells n1 n2 n3 n5 n7
                  obtain ⟨W0, hW0⟩ : ∃ W0 : World, W0 = wr := ⟨_, rfl⟩
                  go_wp2
                  go_region_held3 (fun w' => w'.cell? ⟨w.heap.size, 0, none⟩ = some (.slice a xs.length c) ∧ w'.cell? ⟨g, k, none⟩ = some (.slice (some ⟨byy, 0, none⟩) ys.length cy) ∧ w'.cell? ⟨byy, i, none⟩ = some (.string x))
                    (first
                      | go_keep
                      | (go_split_ands
                         refine ⟨cell_below hb5 (by assumption), cell_below hb5 (by assumption), cell_below hb5 (by assumption)⟩))
                    ((go_at_call 81; refine (HNr.out _ HBq.out.drew).mono ?_; rintro e w5 ⟨v5, rfl, hrow5, hb5⟩))
                  obtain ⟨a5, g5, c5, rfl, hs5, _, _⟩ := seq_of_row hrow5
                  obtain rfl := hs5.1 (by rw [ints_len]; exact N5.out)
                  have d5 := hs5.2 0 _ HHd.out
                  have HB5 := Lib.hid (HBq.out.drew.trans (hb5.mono HBq.out.drew.size))
                  have HC5 := Lib.hid (cell_below hb5 (show wr.drew.cell? ⟨w.heap.size, 0, none⟩ = some (.slice a xs.length c) from hcb))
                  have HW5 := Lib.hid (WRead.below (W := wr.drew) (HWq.out.drewN 1) hb5)
                  clear hb5 hrow5 hs5 hcb hcell hcy
                  go_wp2_with fail
                  refine (HL.out _).mono ?_
                  rintro e w6 ⟨rfl, hb⟩
                  have HB6 := Lib.hid (HB5.out.trans (hb.mono HB5.out.size))
                  have HC6 := Lib.hid (cell_below hb HC5.out)
                  have HW6 := Lib.hid (HW5.out.below hb)
                  clear hb d5
                  go_wp2
                  go_roundw
                  case rel => exact ⟨i + 1, t ++ [UInt8.ofNat (97 + jj)], y + d, by go_num, by omega, by rw [HCat.out], by simp; omega, by simp, by omega, HB6, HC6, HW6, HN⟩
                  case measure => simp [intOf]; omega
                · have HN : Hid (leftQ xs ps t y (tailF (ws.map (fun w => w.map bl)) (k + 1))) := Lib.hid (by
                    have h1 := HDq.out
                    rwa [List.drop_of_length_le (by rw [List.length_map]; omega), List.nil_append] at h1)
                  have htk : t.length ≤ 100 * (k + 1) := by omega
                  have hyk : y ≤ 1000 * (k + 1) := by omega
                  go_wp2
                  go_roundw
                  case rel => exact ⟨k + 1, t, y, by go_num, by omega, rfl, htk, rfl, hyk, HBq, HCq, HWq, HN⟩
                  case measure => simp [intOf]; omega)
          · have HE : Hid (rwM xs ps = m ∧ rwS xs ps = z) := Lib.hid (by
              have h1 := HD.out
              have h2 : tailF (ws.map (fun w => w.map bl)) k = [] := by
                unfold tailF
                rw [if_neg (by omega), if_neg (by rw [List.length_map]; omega)]
              rw [h2] at h1
              exact ⟨by rw [h1.1]; simp [rwM], by rw [h1.2]; simp [rwS]⟩)
            go_wp2
            go_ret3
            exact ⟨by rw [HE.out.1, HE.out.2]; rfl, HB.out⟩
  · have F2 := Lib.hid fun w1 hb => val_eq (v' := .bool false) (FT.out w1 hb) (by simp [ht])
    have HR := Lib.hid (rw_not (s := s) (show tableB xs = false by simpa using ht))
    rw [HR.out.1, HR.out.2.1, HR.out.2.2]
    clear ht FT S
    go_enter Try.func42, Try.ntmps42
    go_wp2_with fail
    refine (F2.out _ K.out.1).mono ?_
    rintro e w1 ⟨rfl, hb⟩
    have HB1 := Lib.hid (K.out.1.trans (hb.mono (by rw [K.out.2.2]; omega)))
    clear hb
    go_wp2
    go_ret3
    exact ⟨rfl, HB1.out⟩

theorem readWithMistakes_both (xs : List ByteArray) (s : ByteArray) (hl : xs.length ≤ 1048576) (ht : ∀ x ∈ xs, x.size ≤ 1048576) (hs : s.size ≤ 1048576) : ∃ (R0 : ByteArray) (R2 : Int) (R1 : Bool),
    Hid (∀ W a b o c, ListIn W a b o xs → Calls Try.prog 42 #[.agg #[.slice a xs.length c], .string s] W fun e W' => e = .returned (.tuple #[.string R0, .int .i64 R2, .bool R1]) ∧ Below W.heap.size W W') ∧
    Hid (∀ W a b o c, ListIn W a b o xs → Calls Try.prog 43 #[.agg #[.slice a xs.length c], .string s] W fun e W' => e = .returned (.tuple #[.string R0, .int .i64 R2, .bool R1]) ∧ Below W.heap.size W W') :=
  ⟨_, _, _, fun W a b o c h => sReadWith_any a b o c xs s W h hs, fun W a b o c h => readWith_any a b o c xs s W h hs⟩
end Go.Proofs.Ytgdiffdpjpkleaa
