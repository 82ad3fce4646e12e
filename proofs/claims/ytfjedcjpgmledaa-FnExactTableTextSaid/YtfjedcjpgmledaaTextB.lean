/-
  TableText, the program's and the model's: both answer alike. Used by the claims on chapter 2.
-/
import Derived.Test.YtfjedcjpgmledaaIsTableB
import Derived.Test.YtfjedcjpgmledaaJoinW
namespace Go.Proofs.Ytfjedcjpgmledaa
open Go.RowKit
set_option linter.unusedVariables false

theorem joined_bl (xs : List ByteArray) (b : UInt8) : joined xs b = Lib.join (xs.map bl) [b] := rfl
theorem tableB_joins {xs : List ByteArray} (h : tableB xs = true) : 0 < xs.length ∧ tot xs ≤ 4001 ∧ ¬ Has 44 xs := by
  obtain ⟨⟨h1, h2⟩, h3, _⟩ := (tableB_iff xs).1 h
  refine ⟨h1, ?_, ?_⟩
  · have h4 : ∀ ys : List ByteArray, (∀ x ∈ ys, x.size ≤ 5) → tot ys ≤ 6 * ys.length := by
      intro ys
      induction ys with
      | nil => intro _; simp [tot]
      | cons y r ih =>
        intro hy
        have := ih (fun x hx => hy x (by simp [hx]))
        have h5 := hy y (by simp)
        simp only [tot, List.map_cons, List.sum_cons, List.length_cons] at this ⊢
        omega
    have := h4 xs (fun x hx => by
      have h6 := h3 x hx
      simp only [marksL, Bool.and_eq_true, decide_eq_true_eq, bl_len] at h6
      exact h6.1.2)
    omega
  · rintro ⟨x, hx, hb⟩
    exact no_comma (T := xs.map bl) h (bl x) (List.mem_map.2 ⟨x, hx, rfl⟩) hb

def textR (xs : List ByteArray) : ByteArray × Bool := if tableB xs = true then (⟨(joined xs 44).toArray⟩, true) else (⟨#[]⟩, false)

theorem tableText_any (a : Option Addr) (b o c : Nat) (xs : List ByteArray) (w : World) (h : ListIn w a b o xs) (hcap : xs.length ≤ c) :
    Calls Try.prog 40 #[.agg #[.slice a xs.length c]] w fun e w' => e = .returned (.tuple #[.string (textR xs).1, .bool (textR xs).2]) ∧ Below w.heap.size w w' := by
  have hl := h.len
  have F := Lib.hid fun ob => isTable_any a b o c xs (w.alloc ob) (h.below (below_alloc w ob))
  have HS := Lib.hid h
  clear h
  by_cases ht : tableB xs = true
  · have F2 := Lib.hid fun ob => val_eq (v' := .bool true) (F.out ob) (by rw [ht])
    have HR : Hid (textR xs = (⟨(joined xs 44).toArray⟩, true)) := Lib.hid (if_pos ht)
    obtain ⟨k1, k2, k3⟩ := tableB_joins ht
    have G := Lib.hid fun w1 hb => join_ok a b o c xs 44 w1 (HS.out.below (w' := w1) hb).src.1 (HS.out.below (w' := w1) hb).src.2 (src_lt (HS.out.below (w' := w1) hb).src k1) hcap k1 k2 k3
    clear ht F k1 k2 k3
    go_enter Try.func40, Try.ntmps40
    go_wp2_with fail
    refine (F2.out _).mono ?_
    rintro e w1 ⟨rfl, hb⟩
    have hc1 : w1.cell? ⟨w.heap.size, 0, none⟩ = some (.slice a xs.length c) := (hb.cell (p := ⟨w.heap.size, 0, none⟩) (by simp)).trans (cell_new _ _ _)
    have HB := Lib.hid ((below_alloc w (.cells #[.slice a xs.length c] 26)).trans (hb.mono (by simp)))
    clear hb
    go_wp2_with fail
    refine (G.out w1 HB.out).mono ?_
    rintro e w2 ⟨rfl, hb⟩
    have HB2 := Lib.hid (HB.out.trans (hb.mono HB.out.size))
    clear hb
    go_wp2
    go_ret2
    exact ⟨by rw [HR.out]; rfl, HB2.out⟩
  · have F2 := Lib.hid fun ob => val_eq (v' := .bool false) (F.out ob) (by simp [ht])
    have HR : Hid (textR xs = (⟨#[]⟩, false)) := Lib.hid (if_neg ht)
    clear ht F
    go_enter Try.func40, Try.ntmps40
    go_wp2_with fail
    refine (F2.out _).mono ?_
    rintro e w1 ⟨rfl, hb⟩
    have HB := Lib.hid ((below_alloc w (.cells #[.slice a xs.length c] 26)).trans (hb.mono (by simp)))
    clear hb
    go_wp2
    go_ret2
    exact ⟨by rw [HR.out]; rfl, HB.out⟩

/-! ### The model's -/
theorem joinedS_snoc (xs : List ByteArray) (x : ByteArray) (b : UInt8) (h : xs ≠ []) : joined (xs ++ [x]) b = joined xs b ++ b :: x.data.toList := by
  obtain ⟨ys, z, rfl⟩ : ∃ ys z, xs = ys ++ [z] := ⟨xs.dropLast, xs.getLast h, (List.dropLast_concat_getLast h).symm⟩
  unfold joined
  rw [List.map_append, List.map_cons, List.map_nil, join_snoc, List.map_append, List.map_cons, List.map_nil, join_snoc]
  simp
theorem joinedS_take (xs : List ByteArray) (b : UInt8) (k : Nat) (x : ByteArray) (hk : 0 < k) (hx : xs[k]? = some x) : joined (xs.take (k + 1)) b = joined (xs.take k) b ++ b :: x.data.toList := by
  rw [List.take_add_one, hx]
  refine joinedS_snoc _ x b (fun e => ?_)
  have := (List.getElem?_eq_some_iff.1 hx).1
  have h2 : (xs.take k).length = 0 := by rw [e]; rfl
  rw [List.length_take] at h2
  omega
theorem catS_three (o l : List UInt8) (b : UInt8) (x : ByteArray) : ((⟨o.toArray⟩ : ByteArray) ++ ⟨#[b]⟩) ++ x = ⟨(o ++ b :: x.data.toList).toArray⟩ := by
  apply ByteArray.ext; apply Array.toList_inj.1; simp
theorem catS_nil (x : ByteArray) : (⟨#[]⟩ : ByteArray) ++ x = ⟨x.data.toList.toArray⟩ := by
  apply ByteArray.ext; apply Array.toList_inj.1; simp

set_option maxHeartbeats 1000000 in
theorem sText_any (a : Option Addr) (b o c : Nat) (xs : List ByteArray) (w : World) (h : ListIn w a b o xs) (ht : tableB xs = true) :
    Calls Try.prog 80 #[.agg #[.slice a xs.length c]] w fun e w' => e = .returned (.string ⟨(joined xs 44).toArray⟩) ∧ Below w.heap.size w w' := by
  have hl := h.len
  have HS := Lib.hid h
  obtain ⟨k1, k2, _⟩ := tableB_joins ht
  clear h ht
  go_enter Try.func80, Try.ntmps80
  go_wp2
  go_loop [3, 4] (fun t v => ∃ (k : Nat) (l : List UInt8), v = .int .i64 k ∧ k ≤ xs.length ∧ t = .string ⟨l.toArray⟩ ∧ l.length ≤ 4001 ∧ Hid (l = joined (xs.take k) 44)) (fun _ v => xs.length - (intOf v).toNat)
  case atStart => exact ⟨0, [], rfl, Nat.zero_le _, rfl, by simp, rfl⟩
  case round =>
    obtain ⟨k, l, rfl, hk, rfl, hll, HL⟩ := hrel
    have hc0 := cell_new w (.slice a xs.length c) 26
    by_cases hlt : k < xs.length
    · obtain rfl := HS.out.src.1 (by omega)
      have hcell := (HS.out.below (below_alloc w (.cells #[.slice (some ⟨b, o, none⟩) xs.length c] 26))).src.2 k _ (List.getElem?_eq_getElem hlt)
      have HX := Lib.hid (List.getElem?_eq_getElem hlt)
      have HTot : Hid (tot (xs.take (k + 1)) ≤ 4001) := Lib.hid (Nat.le_trans (tot_take_le xs (k + 1)) k2)
      have hxs : xs[k].size ≤ 4001 := by
        have h1 := tot_take_succ xs k _ (List.getElem?_eq_getElem hlt)
        have h2 := HTot.out
        omega
      generalize xs[k] = x at hcell HX hxs
      have i0 : (0 : Int) ≤ (k : Int) := by omega
      have i1 : (k : Int) < (xs.length : Int) := by omega
      generalize (w.alloc (.cells #[.slice (some ⟨b, o, none⟩) xs.length c] 26)) = W0 at hc0 hcell ⊢
      by_cases hk0 : k = 0
      · subst hk0
        have hcx : W0.cell? ⟨b, o, none⟩ = some (.string x) := by simpa using hcell
        have hnil : l = [] := by rw [HL.out]; rfl
        subst hnil
        have HS1 := Lib.hid (catS_nil x)
        have HJ : Hid (x.data.toList = joined (xs.take (0 + 1)) 44) := by
          show _ = _
          rw [List.take_add_one, HX.out]; simp [joined, Lib.join_one]
        go_wp2
        go_round
        case rel => exact ⟨1, x.data.toList, rfl, by omega, by rw [HS1.out], by simpa using hxs, HJ⟩
        case measure => simp [intOf]; omega
      · have hkp : 0 < k := by omega
        have HJ : Hid (l ++ 44 :: x.data.toList = joined (xs.take (k + 1)) 44) := by
          show _ = _
          rw [joinedS_take xs 44 k x hkp HX.out, ← HL.out]
        have HS1 : Hid (((⟨l.toArray⟩ : ByteArray) ++ ⟨#[44]⟩) ++ x = ⟨(l ++ 44 :: x.data.toList).toArray⟩) := catS_three l [] 44 x
        have HLen : Hid ((l ++ 44 :: x.data.toList).length ≤ 4001) := Lib.hid (by
          rw [HJ.out]
          have h2 := joined_len (xs.take (k + 1)) 44 (by
            intro e
            have h2 : (xs.take (k + 1)).length = 0 := by rw [e]; rfl
            rw [List.length_take] at h2
            omega)
          have h3 := HTot.out
          omega)
        have p1 : ¬ 9223372036854775807 < l.length + 1 := by omega
        have p2 : ¬ 9223372036854775807 < l.length + 1 + x.size := by omega
        clear hk0
        go_wp2
        go_round
        case rel => exact ⟨k + 1, l ++ 44 :: x.data.toList, by go_num, by omega, by rw [HS1.out], HLen.out, HJ⟩
        case measure => simp [intOf]; omega
    · have HE : Hid (l = joined xs 44) := by
        have h1 := HL.out
        rwa [List.take_of_length_le (by omega)] at h1
      go_wp2
      go_ret
      exact ⟨by rw [← HE.out]; rfl, below_alloc _ _⟩

theorem sTableText_any (a : Option Addr) (b o c : Nat) (xs : List ByteArray) (w : World) (h : ListIn w a b o xs) :
    Calls Try.prog 41 #[.agg #[.slice a xs.length c]] w fun e w' => e = .returned (.tuple #[.string (textR xs).1, .bool (textR xs).2]) ∧ Below w.heap.size w w' := by
  have hl := h.len
  have F := Lib.hid fun ob => stable_any a b o c xs (w.alloc ob) (h.below (below_alloc w ob))
  have HS := Lib.hid h
  clear h
  by_cases ht : tableB xs = true
  · have F2 := Lib.hid fun ob => val_eq (v' := .bool true) (F.out ob) (by rw [ht])
    have HR : Hid (textR xs = (⟨(joined xs 44).toArray⟩, true)) := Lib.hid (if_pos ht)
    have G := Lib.hid fun w1 hb => sText_any a b o c xs w1 (HS.out.below (w' := w1) hb) ht
    clear ht F
    go_enter Try.func41, Try.ntmps41
    go_wp2_with fail
    refine (F2.out _).mono ?_
    rintro e w1 ⟨rfl, hb⟩
    have hc1 : w1.cell? ⟨w.heap.size, 0, none⟩ = some (.slice a xs.length c) := (hb.cell (p := ⟨w.heap.size, 0, none⟩) (by simp)).trans (cell_new _ _ _)
    have HB := Lib.hid ((below_alloc w (.cells #[.slice a xs.length c] 26)).trans (hb.mono (by simp)))
    clear hb
    go_wp2_with fail
    refine (G.out w1 HB.out).mono ?_
    rintro e w2 ⟨rfl, hb⟩
    have HB2 := Lib.hid (HB.out.trans (hb.mono HB.out.size))
    clear hb
    go_wp2
    go_ret2
    exact ⟨by rw [HR.out]; rfl, HB2.out⟩
  · have F2 := Lib.hid fun ob => val_eq (v' := .bool false) (F.out ob) (by simp [ht])
    have HR : Hid (textR xs = (⟨#[]⟩, false)) := Lib.hid (if_neg ht)
    clear ht F
    go_enter Try.func41, Try.ntmps41
    go_wp2_with fail
    refine (F2.out _).mono ?_
    rintro e w1 ⟨rfl, hb⟩
    have HB := Lib.hid ((below_alloc w (.cells #[.slice a xs.length c] 26)).trans (hb.mono (by simp)))
    clear hb
    go_wp2
    go_ret2
    exact ⟨by rw [HR.out]; rfl, HB.out⟩

theorem tableText_both (xs : List ByteArray) (hl : xs.length ≤ 1048576) (ht : ∀ x ∈ xs, x.size ≤ 1048576) : ∃ (R0 : ByteArray) (R1 : Bool),
    Hid (∀ W a b o c, ListIn W a b o xs → xs.length ≤ c → Calls Try.prog 41 #[.agg #[.slice a xs.length c]] W fun e W' => e = .returned (.tuple #[.string R0, .bool R1]) ∧ Below W.heap.size W W') ∧
    Hid (∀ W a b o c, ListIn W a b o xs → xs.length ≤ c → Calls Try.prog 40 #[.agg #[.slice a xs.length c]] W fun e W' => e = .returned (.tuple #[.string R0, .bool R1]) ∧ Below W.heap.size W W') :=
  ⟨_, _, fun W a b o c h _ => sTableText_any a b o c xs W h, fun W a b o c h hc => tableText_any a b o c xs W h hc⟩
end Go.Proofs.Ytfjedcjpgmledaa
