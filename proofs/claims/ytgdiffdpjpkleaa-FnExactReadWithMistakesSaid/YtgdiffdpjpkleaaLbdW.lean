/-
  lettersByDistance and leastOf of the program: the letters of a Table by their distance from some marks, and those with the least one. Used by the claims on chapter 6.
-/
import Derived.Test.YtgdiffdpjpkleaaGrpW
import Derived.Test.YtgdiffdpjpkleaaTableL
import Derived.Test.YtgdiffdpjpkleaaMdW
namespace Go.Proofs.Ytgdiffdpjpkleaa
open Go.RowKit Go.Maps
set_option linter.unusedVariables false

theorem zeroIS (w : World) : (zeroValue 29).run Try.prog w = .ok (.slice none 0 0) w := by kernel_rfl
theorem ints_snoc' (l : List Nat) (n : Nat) : ints (l ++ [n]) = ints l ++ [.int .i64 (n : Int)] := ints_snoc l n

/-- What lettersByDistance leaves. -/
def ByDist (xs : List ByteArray) (s : ByteArray) (w : World) (e : Ending) (w' : World) : Prop :=
  ∃ B D sv, e = .returned (.map (some B)) ∧ w.heap.size ≤ B ∧ Groups w' B (B + 1) 3 1 ints (fun d => byOn (farB xs s) d (List.range xs.length)) xs.length D sv ∧ Below w.heap.size w w'

set_option maxHeartbeats 4000000 in
set_option maxRecDepth 8000 in
theorem byDistance_any (a : Option Addr) (b o c : Nat) (xs : List ByteArray) (s : ByteArray) (w : World) (h : ListIn w a b o xs) (h5 : ∀ x ∈ xs, x.size ≤ 5) (hl : xs.length ≤ 10) (hs : s.size ≤ 5) :
    Calls Try.prog 84 #[.agg #[.slice a xs.length c], .string s] w (ByDist xs s w) := by
  have HS := Lib.hid h
  have H5 := Lib.hid h5
  obtain ⟨i0, hi, hz0, hz1, hz2⟩ := info_parts infoI
  clear h h5
  have hmm := @run_makeMap Try.prog
  have e0 : (w.alloc (.cells #[.slice a xs.length c] 32)).heap.size = w.heap.size + 1 := by simp
  have HG0 : Hid (Groups ((w.alloc (.cells #[.slice a xs.length c] 32)).alloc (.map #[] 0)) (w.heap.size + 1) (w.heap.size + 2) 3 1 ints (fun d => byOn (farB xs s) d (List.range 0)) 0 (.map []) (fun _ => nilS)) := Lib.hid (by
    have := groups_made (w.alloc (.cells #[.slice a xs.length c] 32)) 3 1 ints rfl
    rw [e0] at this
    exact this)
  have hB1 := Lib.hid ((below_alloc w (.cells #[.slice a xs.length c] 32)).alloc (by simp) (.map #[] 0))
  have HZ0 : Hid (w.heap.size + 2 ≤ ((w.alloc (.cells #[.slice a xs.length c] 32)).alloc (.map #[] 0)).heap.size) := Lib.hid (by simp)
  go_enter Try.func84, Try.ntmps84
  go_wp2
  go_loopw [13] (fun v wr => ∃ (k : Nat) (D : DataW Value) (sv : Nat → Value), v = .int .i64 k ∧ k ≤ xs.length ∧ Hid (Groups wr (w.heap.size + 1) (w.heap.size + 2) 3 1 ints (fun d => byOn (farB xs s) d (List.range k)) k D sv) ∧ Hid (Below w.heap.size w wr) ∧ Hid (w.heap.size + 2 ≤ wr.heap.size)) (fun v _ => xs.length - (intOf v).toNat)
  case atStart => exact ⟨0, .map [], fun _ => nilS, rfl, Nat.zero_le _, HG0, hB1, HZ0⟩
  case round =>
    obtain ⟨k, D, sv, rfl, hk, HG, HB, HZ⟩ := hrel
    by_cases hlt : k < xs.length
    · obtain rfl := HS.out.src.1 (by omega)
      have hcell := (HS.out.below HB.out).src.2 k _ (List.getElem?_eq_getElem hlt)
      have HX := Lib.hid (atB_eq (List.getElem?_eq_getElem hlt))
      have hx5 := H5.out _ (List.getElem_mem hlt)
      generalize xs[k] = x at hcell HX hx5
      have HFd : Hid (farB xs s k = dist (bl s) (bl x)) := Lib.hid (by unfold farB; rw [HX.out])
      have hd5 : farB xs s k ≤ 5 := by rw [HFd.out]; have := dist_le (bl s) (bl x); rw [bl_len, bl_len] at this; omega
      have HDs := Lib.hid fun W => distanceOf_any s x W hs hx5
      rw [← HFd.out] at HDs
      have HL : Hid (∀ d, (byOn (farB xs s) d (List.range k)).length ≤ k) := Lib.hid fun d => by have := byOn_le (farB xs s) d (List.range k); rwa [List.length_range] at this
      have HNx : Hid (∀ d, byOn (farB xs s) d (List.range (k + 1)) = if d = farB xs s k then byOn (farB xs s) d (List.range k) ++ [k] else byOn (farB xs s) d (List.range k)) := Lib.hid fun d => by
        rw [List.range_succ]
        by_cases e : d = farB xs s k
        · rw [if_pos e, byOn_snoc_same e.symm]
        · rw [if_neg e, byOn_snoc_other (Ne.symm e)]
      generalize farB xs s k = d0 at HDs hd5 HNx
      clear HFd
      go_wp2_with fail
      refine (HDs.out _).mono ?_
      rintro e w1 ⟨rfl, hb1⟩
      have HG1 := Lib.hid (HG.out.kept hb1)
      have HB1 := Lib.hid (HB.out.trans (hb1.mono HB.out.size))
      have hsz1 : w.heap.size + 2 ≤ w1.heap.size := Nat.le_trans HZ.out hb1.size
      clear hb1 hcell
      obtain ⟨av, cv, hsv⟩ := HG1.out.form d0
      have hat0 := HG1.out.at_ d0
      have hrow0 := HG1.out.row d0
      rw [hsv] at hat0 hrow0
      have hl0 := HL.out d0
      obtain ⟨ys, hys⟩ : ∃ ys, byOn (farB xs s) d0 (List.range k) = ys := ⟨_, rfl⟩
      rw [hys] at hat0 hrow0 hl0 hsv
      have HYS := Lib.hid hys
      have HSV := Lib.hid hsv
      have HKo := Lib.hid (keyN_of (d := d0) (by omega))
      clear hys hsv
      have HA0 := Lib.hid hat0
      have HR0 := Lib.hid hrow0
      clear hat0 hrow0
      go_wp2_with (first
        | (at_lookup; refine wpList_lookup_raw _ rfl _ _ 88 rfl 3 29 lawN Try.underlying88 (.slice none 0 0) (zeroIS _) (w.heap.size + 1) k D rfl HG1.out.own _ _ rfl HKo.out (.slice av ys.length cv) HA0.out ?_)
        | (at_builtin; refine wpList_append_lies _ rfl _ _ 29 rfl (w.heap.size + 2) 3 i0 (.int .i64 0) 1 8 Try.underlying29 hi hz0 hz1 hz2 rfl (by decide) (.slice av ys.length cv) ys.length (ints ys) rfl (HR0.out.alloc _) ⟨w1.heap.size, 0, none⟩ 1 1 [.int .i64 (k : Int)] rfl rfl (cell_one_new _ _ _) (by simp [Value.oneCell']) (by omega) (by unfold maxLen; omega) (by omega) (by simp; omega) (w1.heap.size + 1) (by simp) ?_; intro gg capg w2 hown2 hgrow2 hat2 hglt2
           have HM2 := Lib.hid (HG1.out.map_mid d0 (.cells #[.int .i64 (k : Int)] 3) (by rw [HSV.out]; exact hgrow2)))
        | (at_mapUpdate; refine wpList_mapUpdate_own _ rfl _ _ _ 88 rfl 3 29 lawN Try.underlying88 _ (w.heap.size + 1) k _ rfl HM2.out (by unfold maxLen; omega) _ _ _ rfl rfl HKo.out _ [] (rfl : rawE _ = _) ?_; intro w3 hown3 hgrow3)
        | go_in)
      have HG3 : Hid (Groups w3 (w.heap.size + 1) (w.heap.size + 2) 3 1 ints (fun d => byOn (farB xs s) d (List.range (k + 1))) (k + 1) (D.put (keyN d0) (.held (.slice (some ⟨gg, 0, none⟩) (ys.length + 1) capg))) (fun d => if d = d0 then .slice (some ⟨gg, 0, none⟩) (ys.length + 1) capg else sv d)) := Lib.hid
        (HG1.out.step d0 k (.cells #[.int .i64 (k : Int)] 3) (.slice (some ⟨gg, 0, none⟩) (ys.length + 1) capg) (by rw [HSV.out]; exact hgrow2) (by rw [HYS.out, ints_snoc]; simpa using hown2)
          (by rw [HSV.out]; rcases hat2 with h | h
              · exact .inl h
              · exact .inr (by rw [h]; rfl)) hown3 hgrow3 _ (by rw [HNx.out, if_pos rfl]) (fun d hd => by rw [HNx.out, if_neg hd]))
      have HB2 : Hid (Below w.heap.size w w2) := Lib.hid ((HB1.out.alloc HB1.out.size _).grown hgrow2 (by have := HB1.out.size; simp; omega) (fun q e => by have := (ownBlock_ge HR0.out e).1; omega))
      have HB3 : Hid (Below w.heap.size w w3) := Lib.hid (HB2.out.grown hgrow3 HB2.out.size (fun q e => by injection e; omega))
      have HZ3 : Hid (w.heap.size + 2 ≤ w3.heap.size) := Lib.hid (Nat.le_trans hsz1 (Nat.le_trans (by simp) (Nat.le_trans hgrow2.size hgrow3.size)))
      clear hown2 hgrow2 hat2 hglt2 hown3 hgrow3
      go_wp2
      go_roundw
      case rel => exact ⟨k + 1, _, _, by go_num, by omega, HG3, HB3, HZ3⟩
      case measure => simp [intOf]; omega
    · obtain rfl : k = xs.length := by omega
      go_wp2
      go_ret
      exact ⟨w.heap.size + 1, D, sv, rfl, by omega, HG.out, HB.out⟩
set_option maxHeartbeats 2000000 in
set_option maxRecDepth 8000 in
theorem leastOfI_any {α : Type} (w : World) (B base : Nat) (e : TypeId) (size : Nat) (cells : List α → List Value) (F : Nat → List α) (n : Nat) (D : DataW Value) (sv : Nat → Value) (m : Nat) (hG : Groups w B base e size cells F n D sv) (hm : m ≤ 5) (hne : F m ≠ []) (hlow : ∀ d, d < m → F d = []) :
    Calls Try.prog 83 #[.map (some B)] w fun e w' => e = .returned (.tuple #[sv m, .int .i64 (m : Int), .bool true]) ∧ w' = w := by
  have HG := Lib.hid hG
  have HNe := Lib.hid hne
  have HLo := Lib.hid hlow
  clear hG hne hlow
  go_enter Try.func83, Try.ntmps83
  go_wp2
  go_loopw [8] (fun v wr => ∃ k : Nat, v = .int .i64 k ∧ k ≤ m ∧ wr = w) (fun v _ => 6 - (intOf v).toNat)
  case atStart => exact ⟨0, rfl, Nat.zero_le _, rfl⟩
  case round =>
    obtain ⟨k, rfl, hk, hwr⟩ := hrel
    subst hwr
    have hk6 : k < 6 := by omega
    have HK := Lib.hid (keyN_of (d := k) (by omega))
    have HA := Lib.hid (HG.out.at_ k)
    have HH := Lib.hid (HG.out.has_ k)
    by_cases hlt : k < m
    · have HF : Hid (Maps.has D (keyN k) = false) := Lib.hid (by rw [HH.out, HLo.out k hlt]; rfl)
      go_wp2_with (first
        | (at_lookup; refine wpList_lookup_raw_ok _ rfl _ _ 88 rfl 3 29 lawN Try.underlying88 (.slice none 0 0) (zeroIS _) B n D rfl HG.out.own _ _ rfl HK.out (sv k) HA.out false HF.out ?_)
        | go_in)
      go_roundw
      case rel => exact ⟨k + 1, by go_num, by omega, by trivial⟩
      case measure => simp [intOf]; omega
    · obtain rfl : k = m := by omega
      have HF : Hid (Maps.has D (keyN k) = true) := Lib.hid (by rw [HH.out]; cases h : F k with
        | nil => exact absurd h HNe.out
        | cons _ _ => rfl)
      go_wp2_with (first
        | (at_lookup; refine wpList_lookup_raw_ok _ rfl _ _ 88 rfl 3 29 lawN Try.underlying88 (.slice none 0 0) (zeroIS _) B n D rfl HG.out.own _ _ rfl HK.out (sv k) HA.out true HF.out ?_)
        | go_in)
      go_ret3
      exact ⟨rfl, rfl⟩

theorem zeroPS (w : World) : (zeroValue 44).run Try.prog w = .ok (.slice none 0 0) w := by kernel_rfl
set_option maxHeartbeats 2000000 in
set_option maxRecDepth 8000 in
theorem leastOfP_any {α : Type} (w : World) (B base : Nat) (e : TypeId) (size : Nat) (cells : List α → List Value) (F : Nat → List α) (n : Nat) (D : DataW Value) (sv : Nat → Value) (m : Nat) (hG : Groups w B base e size cells F n D sv) (hm : m ≤ 5) (hne : F m ≠ []) (hlow : ∀ d, d < m → F d = []) :
    Calls Try.prog 122 #[.map (some B)] w fun e w' => e = .returned (.tuple #[sv m, .int .i64 (m : Int), .bool true]) ∧ w' = w := by
  have HG := Lib.hid hG
  have HNe := Lib.hid hne
  have HLo := Lib.hid hlow
  clear hG hne hlow
  go_enter Try.func122, Try.ntmps122
  go_wp2
  go_loopw [8] (fun v wr => ∃ k : Nat, v = .int .i64 k ∧ k ≤ m ∧ wr = w) (fun v _ => 6 - (intOf v).toNat)
  case atStart => exact ⟨0, rfl, Nat.zero_le _, rfl⟩
  case round =>
    obtain ⟨k, rfl, hk, hwr⟩ := hrel
    subst hwr
    have hk6 : k < 6 := by omega
    have HK := Lib.hid (keyN_of (d := k) (by omega))
    have HA := Lib.hid (HG.out.at_ k)
    have HH := Lib.hid (HG.out.has_ k)
    by_cases hlt : k < m
    · have HF : Hid (Maps.has D (keyN k) = false) := Lib.hid (by rw [HH.out, HLo.out k hlt]; rfl)
      go_wp2_with (first
        | (at_lookup; refine wpList_lookup_raw_ok _ rfl _ _ 125 rfl 3 44 lawN Try.underlying125 (.slice none 0 0) (zeroPS _) B n D rfl HG.out.own _ _ rfl HK.out (sv k) HA.out false HF.out ?_)
        | go_in)
      go_roundw
      case rel => exact ⟨k + 1, by go_num, by omega, by trivial⟩
      case measure => simp [intOf]; omega
    · obtain rfl : k = m := by omega
      have HF : Hid (Maps.has D (keyN k) = true) := Lib.hid (by rw [HH.out]; cases h : F k with
        | nil => exact absurd h HNe.out
        | cons _ _ => rfl)
      go_wp2_with (first
        | (at_lookup; refine wpList_lookup_raw_ok _ rfl _ _ 125 rfl 3 44 lawN Try.underlying125 (.slice none 0 0) (zeroPS _) B n D rfl HG.out.own _ _ rfl HK.out (sv k) HA.out true HF.out ?_)
        | go_in)
      go_ret3
      exact ⟨rfl, rfl⟩
end Go.Proofs.Ytgdiffdpjpkleaa
