/-
  DecodeSignal of the model; both answer alike. Used by the claims on chapter 2.
-/
import Derived.Test.YtgdiffdpjpkleaaDecW
import Derived.Test.YtgdiffdpjpkleaaSigB
namespace Go.Proofs.Ytgdiffdpjpkleaa
open Go.RowKit
set_option linter.unusedVariables false

theorem ba_app (l r : Bs) : ba l ++ ba r = ba (l ++ r) := by unfold ba; apply ByteArray.ext; simp
theorem ba_len (l : Bs) : (ba l).size = l.length := ba_size l

/-- What is left behind k words: a gap ahead of each further word. -/
def tailF (WL : List (List Bs)) (k : Nat) : List Bs := if k = 0 then flat WL else if k < WL.length then [47] :: flat (WL.drop k) else []
theorem tailF_word (WL : List (List Bs)) (k : Nat) (y : List Bs) (h : WL[k]? = some y) : flat (WL.drop k) = y ++ tailF WL (k + 1) := by
  obtain ⟨hl, e⟩ := List.getElem?_eq_some_iff.1 h
  rw [List.drop_eq_getElem_cons hl, e]
  unfold tailF
  rw [if_neg (by omega)]
  by_cases h1 : k + 1 < WL.length
  · rw [if_pos h1, flat_cons _ _ (by intro e2; have := congrArg List.length e2; simp at this; omega)]
  · rw [if_neg h1, List.drop_of_length_le (by omega)]
    simp [flat]
theorem WRead.below {W W' : World} {v : Value} {ws : List (List ByteArray)} (h : WRead W v ws) (hb : Below W.heap.size W W') : WRead W' v ws := by
  obtain ⟨g, cap, hv, hc⟩ := h.outer
  refine ⟨g, cap, hv, fun i ys hy => ?_⟩
  obtain ⟨a, b, c, h1, h2⟩ := hc i ys hy
  exact ⟨a, b, c, (hb.cell (p := ⟨g, i, none⟩) (World.block_lt_of_cell? _ _ h1)).trans h1, h2.below hb⟩

theorem letterT_any (j : Nat) (hj : j < 10) (w : World) : Calls Try.prog 96 #[.int .i64 j] w fun e w' => e = .returned (.string (ba [UInt8.ofNat (97 + j)])) ∧ Below w.heap.size w w' := by
  have HC97 : Hid (((UInt8.ofNat (97 + j)).toNat : Int) = 97 + (j : Int)) := Lib.hid (by rw [toNat_97 hj]; omega)
  have u2 : IntKind.u8.wrap (97 + (j : Int)) = 97 + (j : Int) := by rw [IntKind.wrap_u8]; omega
  have hcv : (convert 63 9 (.slice (some ⟨w.heap.size, 0, none⟩) 1 1)).run Try.prog (w.alloc (.cells #[.int .u8 (97 + (j : Int))] 5)) = .ok (.string (ba [UInt8.ofNat (97 + j)])) (w.alloc (.cells #[.int .u8 (97 + (j : Int))] 5)) := by
    refine run_convert_bytes_back (P := Try.prog) (w.alloc (.cells #[.int .u8 (97 + (j : Int))] 5)) 63 9 5 ⟨w.heap.size, 0, none⟩ 1 [UInt8.ofNat (97 + j)] Try.underlying63 Try.underlying5 Try.underlying9 (fun k hk => ?_)
    obtain rfl : k = 0 := by simpa using hk
    have := cell_new w (.int .u8 (97 + (j : Int))) 5
    rw [Addr.add_lit]
    simp only [List.getElem_cons_zero, HC97.out]
    exact this
  generalize ba [UInt8.ofNat (97 + j)] = z at hcv ⊢
  go_enter Try.func96, Try.ntmps96
  go_wp2
  go_ret
  exact ⟨rfl, below_alloc _ _⟩

theorem split_le (t : ByteArray) (b : UInt8) : ∀ x ∈ splitS t b, x.size ≤ t.size := by
  intro x hx
  have h1 := len_split b (bl t)
  rw [← splitS_L, bl_len] at h1
  have h2 : ∀ xs : List ByteArray, x ∈ xs → x.size + 1 ≤ ((xs.map bl).map (fun y => y.length + 1)).sum := by
    intro xs
    induction xs with
    | nil => intro h; cases h
    | cons y r ih =>
      intro h
      simp only [List.map_cons, List.sum_cons]
      rcases List.mem_cons.1 h with rfl | h
      · rw [bl_len]; omega
      · have := ih h; omega
  have := h2 _ hx
  omega

end Go.Proofs.Ytgdiffdpjpkleaa
