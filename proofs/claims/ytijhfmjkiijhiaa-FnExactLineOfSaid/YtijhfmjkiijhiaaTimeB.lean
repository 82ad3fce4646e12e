/-
  TimeOfSignal, the program's and the model's: both answer alike. Used by the claims on chapter 2.
-/
import Derived.Test.YtijhfmjkiijhiaaSigB
import Derived.Test.YtijhfmjkiijhiaaMkTimeW
namespace Go.Proofs.Ytijhfmjkiijhiaa
open Go.RowKit
set_option linter.unusedVariables false

def twB (w : List ByteArray) : Nat := (w.map (fun x => tml (bl x))).sum + 3 * (w.length - 1)
def twsB (ws : List (List ByteArray)) : Nat := (ws.map twB).sum + 7 * (ws.length - 1)
theorem twsB_L (s : ByteArray) : twsB (wordsB s) = tmWs (wordsL (bl s)) := by
  rw [← wordsB_L]
  unfold twsB tmWs
  rw [List.map_map, List.length_map]
  congr 2
  exact List.map_congr_left fun w _ => by simp [twB, tmW, Function.comp_def]
theorem twB_take (w : List ByteArray) (i : Nat) (x : ByteArray) (h : w[i]? = some x) : twB (w.take (i + 1)) = twB (w.take i) + (if i = 0 then 0 else 3) + tml (bl x) := by
  have hl : i < w.length := (List.getElem?_eq_some_iff.1 h).1
  unfold twB
  rw [List.take_add_one, h, List.length_append, List.length_take, Nat.min_eq_left (Nat.le_of_lt hl)]
  by_cases h0 : i = 0
  · subst h0; simp
  · rw [if_neg h0]; simp; omega
theorem twsB_take (ws : List (List ByteArray)) (k : Nat) (y : List ByteArray) (h : ws[k]? = some y) : twsB (ws.take (k + 1)) = twsB (ws.take k) + (if k = 0 then 0 else 7) + twB y := by
  have hl : k < ws.length := (List.getElem?_eq_some_iff.1 h).1
  unfold twsB
  rw [List.take_add_one, h, List.length_append, List.length_take, Nat.min_eq_left (Nat.le_of_lt hl)]
  by_cases h0 : k = 0
  · subst h0; simp
  · rw [if_neg h0]; simp; omega
theorem tml_le (l : Bs) : tml l ≤ 4 * l.length := by
  have := sums_le l
  unfold sums at this
  unfold tml
  omega

set_option maxHeartbeats 4000000 in
theorem sTimeOf_any (s : ByteArray) (w : World) (hs : s.size ≤ 72) (hsig : (pieces (bl s)).isSome = true) :
    Calls Try.prog 13 #[.string s] w fun e w' => e = .returned (.int .i64 ((tmGo false (bl s) : Nat) : Int)) ∧ Below w.heap.size w w' := by
  by_cases hnil : s.size = 0
  · have hE : bl s = [] := List.length_eq_zero_iff.1 (by rw [bl_len]; exact hnil)
    have heq : s.toList.isEmpty = true := by
      rw [ByteArray.toList_eq]
      show (bl s).isEmpty = true
      rw [hE]; rfl
    have HR : Hid (tmGo false (bl s) = 0) := Lib.hid (by rw [hE]; rfl)
    rw [HR.out]
    clear hE
    go_enter Try.func13, Try.ntmps13
    go_wp2
    go_ret
    exact ⟨rfl, Below.refl _ _⟩
  · have hne : bl s ≠ [] := fun e => hnil (by rw [← bl_len, e]; rfl)
    have heq : s.toList.isEmpty = false := by
      rw [ByteArray.toList_eq]
      show (bl s).isEmpty = false
      cases h : bl s with
      | nil => exact absurd h hne
      | cons _ _ => rfl
    have HRq : Hid (tmGo false (bl s) = twsB (wordsB s)) := Lib.hid (by
      have h1 := sig_words hne
      rw [hsig] at h1
      have h2 : allB (wordsB s) = true := by
        have := h1.symm
        simp only [Bool.and_eq_true] at this
        exact this.2.1
      rw [allB_L] at h2
      rw [twsB_L, tm_words h2])
    clear hne hsig
    have G := Lib.hid fun w => words_any s w hs
    obtain ⟨ws, hws⟩ : ∃ ws, ws = wordsB s := ⟨_, rfl⟩
    rw [← hws] at HRq G
    have hwl : 0 < ws.length ∧ ws.length ≤ 73 := by
      rw [hws, wordsB_len]
      have := splitS_len s 47
      omega
    have HWb : Hid (∀ ys ∈ ws, ys.length ≤ 73 ∧ ∀ x ∈ ys, x.size ≤ 72) := Lib.hid (by
      have sp : ∀ (t : ByteArray) (b : UInt8), ∀ x ∈ splitS t b, x.size ≤ t.size := by
        intro t b x hx
        have h1 := len_split b (bl t)
        rw [← splitS_L, bl_len] at h1
        have h2 : ∀ xs : List ByteArray, x ∈ xs → x.size + 1 ≤ ((xs.map bl).map (fun y => y.length + 1)).sum := by
          intro xs
          induction xs with
          | nil => intro h; cases h
          | cons y r ih =>
            intro h
            simp only [List.map_cons, List.sum_cons]
            rcases List.mem_cons.1 h with rfl | h
            · rw [bl_len]; omega
            · have := ih h; omega
        have := h2 _ hx
        omega
      intro ys hy
      rw [hws] at hy
      unfold wordsB at hy
      obtain ⟨t, ht, rfl⟩ := List.mem_map.1 hy
      have h1 := sp s 47 t ht
      have h2 := (splitS_len t 32).2
      refine ⟨by omega, fun x hx => ?_⟩
      have := sp t 32 x hx
      omega)
    clear hws
    go_enter Try.func13, Try.ntmps13
    go_wp2_with fail
    refine (G.out _).mono ?_
    rintro e w1 ⟨v, vs, rfl, hown, hwa, hb⟩
    have HWR := Lib.hid (wread_of hown hwa hwl.1)
    have HB1 := Lib.hid hb
    obtain ⟨g, cap, rfl, _⟩ := HWR.out.outer
    clear hown hwa hb
    go_wp2
    go_loop [3, 5, 6] (fun m v ik => ∃ (k mm : Nat), v = .int .i64 k ∧ k ≤ ws.length ∧ m = .int .i64 mm ∧ mm ≤ 30000 * k ∧ Hid (mm = twsB (ws.take k))) (fun _ v _ => ws.length - (intOf v).toNat)
    case atStart => exact ⟨0, 0, rfl, Nat.zero_le _, rfl, Nat.zero_le _, Lib.hid (by simp [twsB])⟩
    case round =>
      obtain ⟨k, mm, rfl, hk, rfl, hmm, HM⟩ := hrel
      by_cases hlt : k < ws.length
      · have HXk := Lib.hid (List.getElem?_eq_getElem hlt)
        obtain ⟨ys, hys⟩ : ∃ ys, ys = ws[k] := ⟨_, rfl⟩
        rw [← hys] at HXk
        have hyb := HWb.out ys (List.mem_of_getElem? HXk.out)
        obtain ⟨ga, capa, hga, hcells⟩ := HWR.out.outer
        injection hga with hg1 _ hcc
        subst hcc
        injection hg1 with hg2
        injection hg2 with hg3 _ _
        subst hg3
        obtain ⟨ay, byy, cy, hcy, hsy⟩ := hcells k ys HXk.out
        have HSy : Hid (Src w1 ay byy 0 ys) := hsy
        have hyl := hyb.1
        have HYt := Lib.hid hyb.2
        have j0 : (0 : Int) ≤ (k : Int) := by omega
        have j1 : (k : Int) < (ws.length : Int) := by omega
        obtain ⟨m2, hm2⟩ : ∃ m2, m2 = mm + (if k = 0 then 0 else 7) := ⟨_, rfl⟩
        have hm2b : m2 ≤ 30000 * k + 7 := by rw [hm2]; split <;> omega
        have HMt : Hid (twsB (ws.take (k + 1)) = m2 + twB ys) := Lib.hid (by
          rw [twsB_take ws k ys HXk.out, hm2, ← HM.out])
        have HM2 := Lib.hid hm2
        clear hys hsy hcells hyb hm2
        by_cases hk0 : k = 0
        all_goals
          first
            | (have hgt : ¬ (0 : Int) < (k : Int) := by omega
               have HMv : Hid (mm = m2) := Lib.hid (by rw [HM2.out, if_pos hk0]; rfl))
            | (have hgt : (0 : Int) < (k : Int) := by omega
               have HMv : Hid (mm + 7 = m2) := Lib.hid (by rw [HM2.out, if_neg hk0]))
        all_goals (
          clear hk0
          go_wp2
          go_loop [3, 6] (fun m v => ∃ (i t : Nat), v = .int .i64 i ∧ i ≤ ys.length ∧ m = .int .i64 t ∧ t ≤ 30000 * k + 7 + 303 * i ∧ Hid (t = m2 + twB (ys.take i))) (fun _ v => ys.length - (intOf v).toNat)
          case atStart => exact ⟨0, m2, rfl, Nat.zero_le _, by rw [← HMv.out]; try rfl, by omega, Lib.hid (by simp [twB])⟩
          case round =>
            obtain ⟨i, t, rfl, hi, rfl, ht, HT⟩ := hrel
            by_cases hlti : i < ys.length
            · obtain rfl := HSy.out.1 (by omega)
              have hcell : w1.cell? ⟨byy, i, none⟩ = some (.string ys[i]) := by
                have := HSy.out.2 i _ (List.getElem?_eq_getElem hlti)
                rw [Nat.zero_add] at this
                exact this
              have hxm := HYt.out _ (List.getElem_mem hlti)
              have HXi := Lib.hid (List.getElem?_eq_getElem hlti)
              generalize ys[i] = x at hcell hxm HXi
              have HTm := Lib.hid fun w => sTime_any x w (by omega)
              obtain ⟨z, hz⟩ : ∃ z, z = tml (bl x) := ⟨_, rfl⟩
              have hzb : z ≤ 300 := by
                have := tml_le (bl x)
                rw [bl_len] at this
                omega
              have HTz := Lib.hid fun w => val_eqS (v' := .int .i64 z) (HTm.out w) (by rw [hz])
              have HNx : Hid (twB (ys.take (i + 1)) = twB (ys.take i) + (if i = 0 then 0 else 3) + z) := Lib.hid (by rw [twB_take ys i x HXi.out, hz])
              have i0 : (0 : Int) ≤ (i : Int) := by omega
              have i1 : (i : Int) < (ys.length : Int) := by omega
              clear hxm hz HTm
              by_cases hi0 : i = 0
              · have hgi : ¬ (0 : Int) < (i : Int) := by omega
                have HN : Hid (t + z = m2 + twB (ys.take (i + 1))) := Lib.hid (by
                  have h1 := HT.out
                  have h2 := HNx.out
                  rw [if_pos hi0] at h2
                  omega)
                clear hi0
                go_wp2_with fail
                refine (HTz.out _).mono ?_
                rintro e w3 ⟨rfl, hww⟩
                obtain rfl := hww.symm
                go_wp2
                go_round
                case rel => exact ⟨i + 1, t + z, by go_num, by omega, by congr 1, by omega, HN⟩
                case measure => simp [intOf]; omega
              · have hgi : (0 : Int) < (i : Int) := by omega
                have HN : Hid (t + 3 + z = m2 + twB (ys.take (i + 1))) := Lib.hid (by
                  have h1 := HT.out
                  have h2 := HNx.out
                  rw [if_neg hi0] at h2
                  omega)
                clear hi0
                go_wp2_with fail
                refine (HTz.out _).mono ?_
                rintro e w3 ⟨rfl, hww⟩
                obtain rfl := hww.symm
                go_wp2
                go_round
                case rel => exact ⟨i + 1, t + 3 + z, by go_num, by omega, by congr 1, by omega, HN⟩
                case measure => simp [intOf]; omega
            · have HE : Hid (t = twsB (ws.take (k + 1))) := Lib.hid (by
                have h1 := HT.out
                rw [List.take_of_length_le (by omega)] at h1
                rw [HMt.out]; exact h1)
              have htb : t ≤ 30000 * (k + 1) := by omega
              go_wp2
              go_round
              case rel => exact ⟨k + 1, t, by go_num, by omega, rfl, htb, HE⟩
              case measure => simp [intOf]; omega)
      · have HE : Hid (tmGo false (bl s) = mm) := Lib.hid (by
          have h1 := HM.out
          rw [List.take_of_length_le (by omega)] at h1
          rw [HRq.out, h1])
        go_wp2
        go_ret
        exact ⟨by rw [HE.out]; rfl, HB1.out⟩

end Go.Proofs.Ytijhfmjkiijhiaa
