/-
  signalOfWord (the program's): the marks of the letters of a word, with gaps. Used by the claims on chapter 2.
-/
import Derived.Test.YtekgmdigchobbaaDoorPieceW
import Derived.Test.YtekgmdigchobbaaDoorMsgW
import Derived.Test.YtekgmdigchobbaaDoorShelf
namespace Go.Proofs.YtekgmdigchobbaaDoor
open Go.RowKit
set_option linter.unusedVariables false

def lettersL (T : List Bs) (x : Bs) : List Bs := x.map (look T)
def wordL (T : List Bs) (x : Bs) : Bs := Lib.join (x.map (look T)) [32]

theorem join_le (b : UInt8) : ∀ xs : List Bs, (Lib.join xs [b]).length ≤ (xs.map (fun x => x.length + 1)).sum
  | [] => by simp [Lib.join]
  | [x] => by simp [Lib.join_one]
  | x :: y :: r => by
    have := join_le b (y :: r)
    rw [join_cons2, List.length_append, List.length_cons]
    simp only [List.map_cons, List.sum_cons] at this ⊢
    omega
theorem iterAt_cell (w : World) (k : Nat) (s : ByteArray) (p q : Nat) {v : Addr} (h : w.heap[k]? = some (.stringIter s p)) : (w.iterAt k s q).cell? v = w.cell? v := by
  unfold World.cell?
  by_cases e : v.block = k
  · rw [e, Lib.iterAt_heap w k s p q h, h]
  · rw [Lib.iterAt_other _ _ _ _ _ e]
theorem cell_grown {w w1 : World} {o : Obj} {base : Nat} {e : TypeId} {size : Nat} {v : Value} {n : Nat} {xs : List Value} (h : w.ownsRow base e size v n xs) {p : Addr} {u : Value} (hp : w.cell? p = some u) (hg : (w.alloc o).grownBy w1 v.ownBlock) (hne : v.ownBlock ≠ some p.block) : w1.cell? p = some u := by
  have hlt := World.block_lt_of_cell? _ _ hp
  unfold World.cell? at hp ⊢
  rw [hg.block p.block (by simp; omega) (fun e => hne e.symm), Below.heap_alloc _ _ _ hlt]
  exact hp
theorem look_bl (xs : List ByteArray) (i : Nat) (x : ByteArray) (h : xs[i]? = some x) (u : UInt8) (hu : u.toNat = 97 + i) : look (xs.map bl) u = bl x := by
  unfold look
  rw [hu, Nat.add_sub_cancel_left, List.getD_eq_getElem?_getD, List.getElem?_map, h]; rfl

set_option maxHeartbeats 4000000 in
set_option maxRecDepth 8000 in
theorem word_any (a : Option Addr) (b o c : Nat) (xs : List ByteArray) (m : ByteArray) (w : World) (h : ListIn w a b o xs) (hn : xs.length ≤ 10) (hx : ∀ x ∈ xs, x.size ≤ 5) (hr : ∀ u ∈ bl m, inRow xs.length u = true) (hm : m.size ≤ 12) :
    Calls Tryd.prog 33 #[.agg #[.slice a xs.length c], .string m] w fun e w' => e = .returned (.string (ba (wordL (xs.map bl) (bl m)))) ∧ Below w.heap.size w w' := by
  obtain ⟨i0, hi', hz0, hz1, hz2⟩ := info_parts infoStr
  have HS := Lib.hid h
  have HX := Lib.hid hx
  have HR := Lib.hid hr
  clear h hx hr
  go_enter Tryd.func33, Tryd.ntmps33
  go_wp2
  go_loopw [5] (fun v wr => ∃ pos : Nat, pos ≤ m.size ∧ wr.heap[w.heap.size + 2]? = some (.stringIter m pos) ∧ wr.cell? ⟨w.heap.size, 0, none⟩ = some (.slice a xs.length c) ∧ wr.ownsRow (w.heap.size + 1) 9 1 v pos (tx (lettersL (xs.map bl) ((bl m).take pos))) ∧ Hid (Below w.heap.size w wr)) (fun _ wr => m.size - wr.iterPos (w.heap.size + 2))
  case atStart =>
    have b1 := below_alloc w (.cells #[.slice a xs.length c] 26)
    have hc0 := cell_new w (.slice a xs.length c) 26
    have hm0 : ((w.alloc (.cells #[.slice a xs.length c] 26)).alloc (Obj.cells #[] 9)).ownsRow (w.heap.size + 1) 9 1 (.slice (some ⟨w.heap.size + 1, 0, none⟩) 0 0) 0 (tx []) := by
      have := World.ownsRow_made (base := w.heap.size + 1) (e := 9) (size := 1) (w.alloc (.cells #[.slice a xs.length c] 26)) #[] 0 (by simp) (by unfold maxLen; omega) rfl
      have hz : (w.alloc (.cells #[.slice a xs.length c] 26)).heap.size = w.heap.size + 1 := by simp
      rw [hz] at this
      exact this
    have hit := World.iter_heap ((w.alloc (.cells #[.slice a xs.length c] 26)).alloc (Obj.cells #[] 9)) m 0
    exact ⟨0, Nat.zero_le _, by simpa using hit, keep_cell _ _ (keep_cell _ _ hc0), hm0.alloc (.stringIter m 0), Lib.hid ((b1.alloc (by simp) _).alloc (by simp; omega) _)⟩
  case round =>
    obtain ⟨pos, hp, hit, hc1, hown, HB⟩ := hrel
    obtain ⟨av, capv, rfl⟩ := row_form hown
    have HPo := Lib.hid (iterPos_of hit)
    by_cases hlt : pos < m.size
    · obtain ⟨r, wd, hde, hrr, hwd, hcase⟩ := sign_at m pos hlt
      have hnx : ∀ ty, (Instr.next (.pointer (some ⟨w.heap.size + 2, 0, none⟩)) true ty).run Tryd.prog wr = _ := fun ty => Lib.run_next_any_at wr (w.heap.size + 2) m pos ty hit hlt
      have hrow := HR.out _ (List.mem_of_getElem? (bl_at m pos hlt))
      rw [inRow_iff, Bool.and_eq_true] at hrow
      simp only [decide_eq_true_eq] at hrow
      obtain ⟨hre, rfl⟩ : r = m[pos].toNat ∧ wd = 1 := by
        rcases hcase with ⟨_, h2, h3⟩ | ⟨_, h2⟩
        · exact ⟨h2, h3⟩
        · omega
      obtain ⟨i, hi⟩ : ∃ i, m[pos].toNat = 97 + i := ⟨m[pos].toNat - 97, by omega⟩
      have hil : i < xs.length := by omega
      obtain rfl := HS.out.src.1 (by omega)
      have hcell0 := (HS.out.below HB.out).src.2 i _ (List.getElem?_eq_getElem hil)
      have HLk := Lib.hid (look_bl xs i _ (List.getElem?_eq_getElem hil) m[pos] hi)
      have HTk : Hid (lettersL (xs.map bl) ((bl m).take (pos + 1)) = lettersL (xs.map bl) ((bl m).take pos) ++ [bl xs[i]]) := Lib.hid (by
        unfold lettersL
        rw [List.take_add_one, bl_at m pos hlt, List.map_append]
        simp [HLk.out])
      have hlt2 : b < wr.heap.size := World.block_lt_of_cell? _ _ hcell0
      rw [hde] at hnx
      simp only at hnx
      obtain rfl : r = 97 + i := by omega
      have hit2 := Lib.iterAt_heap wr (w.heap.size + 2) m pos (pos + 1) hit
      have hown2 := row_iter hown hit (pos + 1)
      have HB2 : Hid (Below w.heap.size w (wr.iterAt (w.heap.size + 2) m (pos + 1))) := Lib.hid (Lib.below_iterAt HB.out (k := w.heap.size + 2) (by omega) m (pos + 1))
      have hc2 : (wr.iterAt (w.heap.size + 2) m (pos + 1)).cell? ⟨w.heap.size, 0, none⟩ = some (.slice (some ⟨b, o, none⟩) xs.length c) := by rw [← hc1]; exact iterAt_cell _ _ _ _ _ hit
      have hcell : (wr.iterAt (w.heap.size + 2) m (pos + 1)).cell? ⟨b, o + i, none⟩ = some (.string xs[i]) := by rw [← hcell0]; exact iterAt_cell _ _ _ _ _ hit
      generalize xs[i] = x at hcell HTk
      obtain ⟨W1, hW1⟩ : ∃ W1, W1 = wr.iterAt (w.heap.size + 2) m (pos + 1) := ⟨_, rfl⟩
      rw [← hW1] at hnx hit2 HB2 hown2 hc2 hcell
      clear hW1 hit hde hcase hown hc1 hcell0 hre hrow HLk
      have j0 : (0 : Int) ≤ (i : Int) := by omega
      have j1 : (i : Int) < (xs.length : Int) := by omega
      have q1 : ((97 + i : Nat) : Int) - 97 = (i : Int) := by omega
      have q2 : IntKind.i32.wrap (((97 + i : Nat) : Int) - 97) = (i : Int) := by rw [q1, IntKind.wrap_i32]; omega
      have q3 : IntKind.i32.wrap (97 + (i : Int) - 97) = (i : Int) := by rw [IntKind.wrap_i32]; omega
      have HBsz := HB2.out.size
      go_wp2_with (at_builtin; refine wpList_append_own _ rfl _ _ 24 rfl (w.heap.size + 1) 9 i0 (.string ByteArray.empty) 1 16 Tryd.underlying24 hi' hz0 hz1 hz2 rfl (by decide) _ _ _ rfl (hown2.alloc _) ⟨W1.heap.size, 0, none⟩ 1 1 [.string x] rfl rfl (cell_one_new _ _ _) (by simp [Value.oneCell']) (by unfold maxLen; omega) (by omega) (by have := HB2.out.size; simp; omega) ?_; intro v' w1 hown' hgrow _)
      have HW : Hid (w1.ownsRow (w.heap.size + 1) 9 1 v' (pos + 1) (tx (lettersL (xs.map bl) ((bl m).take (pos + 1))))) := Lib.hid (by rw [HTk.out, tx_snoc, ba_bl]; exact hown')
      have hit4 := Lib.hid (iter_grown hown2 hit2 hgrow)
      have hc4 : Hid (w1.cell? ⟨w.heap.size, 0, none⟩ = some (.slice (some ⟨b, o, none⟩) xs.length c)) := Lib.hid (cell_grown hown2 hc2 hgrow (fun e => by have h9 := (hown2.lt _ e).1; exact absurd h9 (by simp)))
      have HB4 := Lib.hid ((HB2.out.alloc HB2.out.size _).grown hgrow (by have := HB2.out.size; simp; omega) (fun j e => by have := (hown2.lt j e).1; omega))
      clear hown' hgrow
      all_goals (
        go_roundw
        case rel => exact ⟨pos + 1, by omega, hit4.out, hc4.out, HW.out, HB4⟩
        case measure => rw [iterPos_of hit4.out, HPo.out]; omega)
    · have hnx : ∀ ty, (Instr.next (.pointer (some ⟨w.heap.size + 2, 0, none⟩)) true ty).run Tryd.prog wr = _ := fun ty => Lib.run_next_end_at wr (w.heap.size + 2) m pos ty hit hlt
      obtain rfl : pos = m.size := by omega
      have hT : (bl m).take m.size = bl m := List.take_of_length_le (by rw [bl_len]; exact Nat.le_refl _)
      rw [hT] at hown
      have HO := Lib.hid hown
      by_cases h0 : m.size = 0
      · have HE : Hid (wordL (xs.map bl) (bl m) = []) := Lib.hid (by
          have : bl m = [] := List.length_eq_zero_iff.1 (by rw [bl_len]; exact h0)
          rw [this]; rfl)
        have HJ := Lib.hid fun w => Tryd.strings_Join_none av capv ⟨#[32]⟩ w
        rw [h0]
        clear hown hc1 hit
        go_wp2_with fail
        refine (HJ.out _).mono ?_
        rintro e w' ⟨rfl, hww⟩
        obtain rfl := hww.symm
        go_wp2
        go_ret
        exact ⟨by rw [HE.out]; rfl, HB.out⟩
      · have hlen : (lettersL (xs.map bl) (bl m)).length = m.size := by rw [lettersL, List.length_map, bl_len]
        rcases HO.out.2 with ⟨hv, hz⟩ | ⟨g, cap, cur, hv, hgb, hgh, hcap, hrest⟩
        · exact absurd hz (by omega)
        · injection hv with hv1 _ hv3
          subst hv1; subst hv3
          have hJ := Tryd.strings_Join g 0 capv ((lettersL (xs.map bl) (bl m)).map ba) ⟨#[32]⟩ wr (fun j x hx => by
            have h1 := HO.out.cells rfl j (.string x) (by
              show (tx (lettersL (xs.map bl) (bl m)))[j]? = some (.string x)
              unfold tx
              rw [List.getElem?_map] at hx ⊢
              cases h9 : (lettersL (xs.map bl) (bl m))[j]? with
              | none => rw [h9] at hx; cases hx
              | some y => rw [h9] at hx; rw [Option.map_some] at hx ⊢; rw [Option.some.inj hx])
            rw [Addr.add_lit] at h1
            exact h1) (Array.getElem?_eq_some_iff.1 hgh).1 (by rw [List.length_map, hlen]; omega) (by rw [List.length_map, hlen]; exact hcap) (by
              have e1 : ((lettersL (xs.map bl) (bl m)).map ba).map (·.data.toList) = lettersL (xs.map bl) (bl m) := map_ba_bl _
              rw [e1]
              have h1 := join_le 32 (lettersL (xs.map bl) (bl m))
              have h2 := sum_le 5 (lettersL (xs.map bl) (bl m)) (fun y hy => by
                obtain ⟨u, hu, rfl⟩ := List.mem_map.1 hy
                have hrow := HR.out u hu
                rw [inRow_iff, Bool.and_eq_true] at hrow
                simp only [decide_eq_true_eq] at hrow
                have hil : u.toNat - 97 < xs.length := by omega
                rw [look_bl xs (u.toNat - 97) _ (List.getElem?_eq_getElem hil) u (by omega), bl_len]
                exact HX.out _ (List.getElem_mem hil))
              rw [hlen] at h2
              exact Nat.le_trans h1 (Nat.le_trans h2 (by omega)))
          have e1 : ((lettersL (xs.map bl) (bl m)).map ba).map (·.data.toList) = lettersL (xs.map bl) (bl m) := map_ba_bl _
          rw [e1, List.length_map, hlen] at hJ
          have HJ := Lib.hid hJ
          clear hown hc1 hit hJ hgh hrest
          go_wp2_with fail
          refine HJ.out.mono ?_
          rintro e w' ⟨rfl, hb⟩
          have HB2 := Lib.hid (HB.out.trans (hb.mono HB.out.size))
          clear hb
          go_wp2
          go_ret
          exact ⟨rfl, HB2.out⟩
end Go.Proofs.YtekgmdigchobbaaDoor
