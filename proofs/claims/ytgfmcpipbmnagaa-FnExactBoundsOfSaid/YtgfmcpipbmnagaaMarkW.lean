/-
  Contracts of the laws' own markText, markStringS, heldStringS, eqStringS. Used by the claims on functions that return lists of texts.
-/
import Derived.Test.YtgfmcpipbmnagaaTextL
import Derived.Test.YtgfmcpipbmnagaaGrow0
import Derived.Test.YtgfmcpipbmnagaaRows
import Derived.WalkKit
import Derived.WalkSpells
import Derived.LoopTactic
import Derived.Handy
import Derived.Lib.Hide
import Derived.Lib.ItoaNum
import Derived.IntWalk
import Derived.Laws.IdiomStrings
import Derived.Deep.QuietTactic
import Derived.BigQuiet
import Derived.Deep.RegionHeld3
namespace Go.Proofs.Ytgfmcpipbmnagaa
open Go.RowKit
set_option linter.unusedVariables false

/-- The mark number k. -/
def mark (k : Nat) : ByteArray := ⟨(109 :: Lib.decDigits k).toArray⟩

theorem mdec_small {n : Nat} (h : n < 10) : Lib.decDigits n = [UInt8.ofNat (48 + n)] := by rw [Lib.decDigits, dif_pos h]
theorem mdec_big {n : Nat} (h : ¬ n < 10) : Lib.decDigits n = Lib.decDigits (n / 10) ++ [UInt8.ofNat (48 + n % 10)] := by rw [Lib.decDigits, dif_neg h]
theorem mdec_step (j : Nat) (o : List UInt8) (h : 0 < j) : (if j / 10 = 0 then [] else Lib.decDigits (j / 10)) ++ (UInt8.ofNat (48 + j % 10) :: o) = Lib.decDigits j ++ o := by
  by_cases hj : j < 10
  · rw [if_pos (by omega), mdec_small hj, Nat.mod_eq_of_lt hj]; rfl
  · rw [if_neg (by omega), mdec_big hj]; simp
theorem mstr_app (a b : List UInt8) : (⟨a.toArray⟩ : ByteArray) ++ ⟨b.toArray⟩ = ⟨(a ++ b).toArray⟩ := by
  apply ByteArray.ext; simp
theorem mdec_len (k : Nat) : ∀ u : Nat, u < 10 ^ (k + 1) → (Lib.decDigits u).length ≤ k + 1 := by
  induction k with
  | zero => intro u h; rw [mdec_small (by simpa using h)]; simp
  | succ k ih =>
    intro u h
    by_cases hu : u < 10
    · rw [mdec_small hu]; simp
    · rw [mdec_big hu]
      have := ih (u / 10) (by rw [Nat.pow_succ] at h; omega)
      simp; omega

theorem conv_one (w : World) (d : Nat) (hd : d < 10) (x : Int) (hx : x = 48 + (d : Int)) :
    (convert 46 9 (.slice (some ⟨w.heap.size, 0, none⟩) 1 1)).run Try.prog (w.alloc (.cells #[.int .u8 x] 5)) = .ok (.string ⟨[UInt8.ofNat (48 + d)].toArray⟩) (w.alloc (.cells #[.int .u8 x] 5)) := by
  have e : ((UInt8.ofNat (48 + d)).toNat : Int) = x := by rw [UInt8.toNat_ofNat']; omega
  exact run_convert_bytes_back (P := Try.prog) (w.alloc (.cells #[.int .u8 x] 5)) 46 9 5 ⟨w.heap.size, 0, none⟩ 1 [UInt8.ofNat (48 + d)] Try.underlying46 Try.underlying5 Try.underlying9 (fun j hj => by
    obtain rfl : j = 0 := by simpa using hj
    simp [Addr.add]; omega)

/-! ### markStringS writes, heldStringS reads -/
/-- The first i of the n cells of block g hold the marks k0, k0 + 1, ..; of what was there nothing else has turned. -/
structure Marked (w wr : World) (g n k0 i : Nat) : Prop where
  grown : w.grownBy wr (some g)
  done : ∀ j, j < i → wr.cell? ⟨g, j, none⟩ = some (.string (mark (k0 + j)))
  open_ : ∀ j, j < n → (∃ v, wr.cell? ⟨g, j, none⟩ = some v) ∧ wr.frozen? ⟨g, j, none⟩ = false

theorem Marked.step {w wr w1 : World} {g n k0 i : Nat} (h : Marked w wr g n k0 i) (hi : i < n) (hb : Below wr.heap.size wr w1) : Marked w (w1.setCell ⟨g, i, none⟩ (.string (mark (k0 + i)))) g n k0 (i + 1) := by
  obtain ⟨⟨v, hv⟩, hf⟩ := h.open_ i hi
  have hg : g < wr.heap.size := World.block_lt_of_cell? _ _ hv
  have c1 : w1.cell? ⟨g, i, none⟩ = some v := (hb.cell (p := ⟨g, i, none⟩) hg).trans hv
  have other : ∀ j, j ≠ i → (w1.setCell ⟨g, i, none⟩ (.string (mark (k0 + i)))).cell? ⟨g, j, none⟩ = wr.cell? ⟨g, j, none⟩ := fun j hj => by
    rw [← hb.cell (p := ⟨g, j, none⟩) hg]
    exact World.cell?_setCell_other _ _ _ _ (by intro e; cases e; exact hj rfl)
  have same : (w1.setCell ⟨g, i, none⟩ (.string (mark (k0 + i)))).cell? ⟨g, i, none⟩ = some (.string (mark (k0 + i))) :=
    World.cell?_setCell_same' _ _ _ (by rw [c1]; rfl)
  refine ⟨grown_trans_some h.grown (grown_trans_some (grown_of_below hb) (grown_set i _)), fun j hj => ?_, fun j hj => ⟨?_, ?_⟩⟩
  · by_cases e : j = i
    · subst e; exact same
    · rw [other j e]; exact h.done j (by omega)
  · by_cases e : j = i
    · subst e; exact ⟨_, same⟩
    · rw [other j e]; exact (h.open_ j hj).1
  · rw [World.frozen?_setCell, hb.frozen (p := ⟨g, j, none⟩) hg]; exact (h.open_ j hj).2

end Go.Proofs.Ytgfmcpipbmnagaa
