/-
  Contracts of the laws' own markText, markStringS, heldStringS, eqStringS. Used by the claims on functions that return lists of texts.
-/
import Derived.Test.YthkafalpjokfeaaTextL
import Derived.Test.YthkafalpjokfeaaGrow0
import Derived.Test.YthkafalpjokfeaaRows
import Derived.WalkKit
import Derived.WalkSpells
import Derived.LoopTactic
import Derived.Handy
import Derived.Lib.Hide
import Derived.Lib.ItoaNum
import Derived.IntWalk
import Derived.Laws.IdiomStrings
import Derived.Deep.QuietTactic
import Derived.BigQuiet
import Derived.Deep.RegionHeld3
namespace Go.Proofs.Ythkafalpjokfeaa
open Go.RowKit
set_option linter.unusedVariables false

/-- The mark number k. -/
def mark (k : Nat) : ByteArray := ⟨(109 :: Lib.decDigits k).toArray⟩

theorem mdec_small {n : Nat} (h : n < 10) : Lib.decDigits n = [UInt8.ofNat (48 + n)] := by rw [Lib.decDigits, dif_pos h]
theorem mdec_big {n : Nat} (h : ¬ n < 10) : Lib.decDigits n = Lib.decDigits (n / 10) ++ [UInt8.ofNat (48 + n % 10)] := by rw [Lib.decDigits, dif_neg h]
theorem mdec_step (j : Nat) (o : List UInt8) (h : 0 < j) : (if j / 10 = 0 then [] else Lib.decDigits (j / 10)) ++ (UInt8.ofNat (48 + j % 10) :: o) = Lib.decDigits j ++ o := by
  by_cases hj : j < 10
  · rw [if_pos (by omega), mdec_small hj, Nat.mod_eq_of_lt hj]; rfl
  · rw [if_neg (by omega), mdec_big hj]; simp
theorem mstr_app (a b : List UInt8) : (⟨a.toArray⟩ : ByteArray) ++ ⟨b.toArray⟩ = ⟨(a ++ b).toArray⟩ := by
  apply ByteArray.ext; simp
theorem mdec_len (k : Nat) : ∀ u : Nat, u < 10 ^ (k + 1) → (Lib.decDigits u).length ≤ k + 1 := by
  induction k with
  | zero => intro u h; rw [mdec_small (by simpa using h)]; simp
  | succ k ih =>
    intro u h
    by_cases hu : u < 10
    · rw [mdec_small hu]; simp
    · rw [mdec_big hu]
      have := ih (u / 10) (by rw [Nat.pow_succ] at h; omega)
      simp; omega

theorem conv_one (w : World) (d : Nat) (hd : d < 10) (x : Int) (hx : x = 48 + (d : Int)) :
    (convert 58 9 (.slice (some ⟨w.heap.size, 0, none⟩) 1 1)).run Try.prog (w.alloc (.cells #[.int .u8 x] 5)) = .ok (.string ⟨[UInt8.ofNat (48 + d)].toArray⟩) (w.alloc (.cells #[.int .u8 x] 5)) := by
  have e : ((UInt8.ofNat (48 + d)).toNat : Int) = x := by rw [UInt8.toNat_ofNat']; omega
  exact run_convert_bytes_back (P := Try.prog) (w.alloc (.cells #[.int .u8 x] 5)) 58 9 5 ⟨w.heap.size, 0, none⟩ 1 [UInt8.ofNat (48 + d)] Try.underlying58 Try.underlying5 Try.underlying9 (fun j hj => by
    obtain rfl : j = 0 := by simpa using hj
    simp [Addr.add]; omega)

theorem markText_any (k : Nat) (h0 : 1 ≤ k) (h1 : k ≤ 4194304) (w : World) :
    Calls Try.prog 110 #[.int .i64 k] w fun e w' => e = .returned (.string (mark k)) ∧ Below w.heap.size w w' := by
  have hlk : (Lib.decDigits k).length ≤ 7 := mdec_len 6 k (by omega)
  have HK : Hid (k ≠ 0) := Lib.hid (by omega)
  go_enter Try.func110, Try.ntmps110
  go_wp2
  go_loopw [0, 3] (fun v t wr => ∃ (j : Nat) (o : List UInt8), v = .int .i64 j ∧ j ≤ k ∧ t = .string ⟨o.toArray⟩ ∧ Hid ((if j = 0 then [] else Lib.decDigits j) ++ o = Lib.decDigits k) ∧ o.length ≤ 7 ∧ Hid (Below w.heap.size w wr)) (fun v _ _ => (intOf v).toNat)
  case atStart => exact ⟨k, [], rfl, Nat.le_refl _, rfl, by show _ = _; rw [if_neg HK.out]; simp, by simp, Below.refl _ _⟩
  case round =>
    obtain ⟨j, o, rfl, hj, rfl, HD, ho, HB⟩ := hrel
    by_cases hz : 0 < j
    · have hcv := conv_one wr (j % 10) (by omega) (48 + (j : Int) % 10) (by omega)
      have HN : Hid ((if j / 10 = 0 then [] else Lib.decDigits (j / 10)) ++ (UInt8.ofNat (48 + j % 10) :: o) = Lib.decDigits k) := by
        show _ = _
        have := HD.out
        rw [if_neg (by omega)] at this
        rw [mdec_step j o hz, this]
      have hol : (UInt8.ofNat (48 + j % 10) :: o).length ≤ 7 := by
        have := congrArg List.length HN.out
        rw [List.length_append] at this
        omega
      have HL := Lib.hid hol
      have hcat : ¬ 9223372036854775807 < 1 + o.length := by omega
      have HS : Hid ((⟨[UInt8.ofNat (48 + j % 10)].toArray⟩ : ByteArray) ++ ⟨o.toArray⟩ = ⟨(UInt8.ofNat (48 + j % 10) :: o).toArray⟩) := mstr_app [UInt8.ofNat (48 + j % 10)] o
      clear hol
      generalize UInt8.ofNat (48 + j % 10) = c at hcv HN HL HS
      have HB2 : Hid (Below w.heap.size w (wr.alloc (.cells #[.int .u8 (48 + (j : Int) % 10)] 5))) := Lib.hid (HB.out.alloc HB.out.size _)
      go_wp2
      go_roundw
      case rel => exact ⟨j / 10, c :: o, by congr 1, by omega, by rw [← HS.out], HN, HL.out, HB2⟩
      case measure => simp [intOf]; omega
    · obtain rfl : j = 0 := by omega
      have HM : Hid ((⟨#[109]⟩ : ByteArray) ++ ⟨o.toArray⟩ = mark k) := by
        show _ = _
        have := HD.out
        simp at this
        unfold mark
        rw [← this]
        exact mstr_app [109] o
      have hcat : ¬ 9223372036854775807 < 1 + o.length := by omega
      go_wp2
      rw [HM.out]
      go_ret
      exact ⟨rfl, HB.out⟩

/-! ### markStringS writes, heldStringS reads -/
/-- The first i of the n cells of block g hold the marks k0, k0 + 1, ..; of what was there nothing else has turned. -/
structure Marked (w wr : World) (g n k0 i : Nat) : Prop where
  grown : w.grownBy wr (some g)
  done : ∀ j, j < i → wr.cell? ⟨g, j, none⟩ = some (.string (mark (k0 + j)))
  open_ : ∀ j, j < n → (∃ v, wr.cell? ⟨g, j, none⟩ = some v) ∧ wr.frozen? ⟨g, j, none⟩ = false

theorem Marked.step {w wr w1 : World} {g n k0 i : Nat} (h : Marked w wr g n k0 i) (hi : i < n) (hb : Below wr.heap.size wr w1) : Marked w (w1.setCell ⟨g, i, none⟩ (.string (mark (k0 + i)))) g n k0 (i + 1) := by
  obtain ⟨⟨v, hv⟩, hf⟩ := h.open_ i hi
  have hg : g < wr.heap.size := World.block_lt_of_cell? _ _ hv
  have c1 : w1.cell? ⟨g, i, none⟩ = some v := (hb.cell (p := ⟨g, i, none⟩) hg).trans hv
  have other : ∀ j, j ≠ i → (w1.setCell ⟨g, i, none⟩ (.string (mark (k0 + i)))).cell? ⟨g, j, none⟩ = wr.cell? ⟨g, j, none⟩ := fun j hj => by
    rw [← hb.cell (p := ⟨g, j, none⟩) hg]
    exact World.cell?_setCell_other _ _ _ _ (by intro e; cases e; exact hj rfl)
  have same : (w1.setCell ⟨g, i, none⟩ (.string (mark (k0 + i)))).cell? ⟨g, i, none⟩ = some (.string (mark (k0 + i))) :=
    World.cell?_setCell_same' _ _ _ (by rw [c1]; rfl)
  refine ⟨grown_trans_some h.grown (grown_trans_some (grown_of_below hb) (grown_set i _)), fun j hj => ?_, fun j hj => ⟨?_, ?_⟩⟩
  · by_cases e : j = i
    · subst e; exact same
    · rw [other j e]; exact h.done j (by omega)
  · by_cases e : j = i
    · subst e; exact ⟨_, same⟩
    · rw [other j e]; exact (h.open_ j hj).1
  · rw [World.frozen?_setCell, hb.frozen (p := ⟨g, j, none⟩) hg]; exact (h.open_ j hj).2

theorem mark_any (a : Option Addr) (g n c k0 : Nat) (w : World) (ha : 0 < n → a = some ⟨g, 0, none⟩) (h1 : 1 ≤ k0) (h2 : k0 + n ≤ 4194304) (ho : ∀ j, j < n → (∃ v, w.cell? ⟨g, j, none⟩ = some v) ∧ w.frozen? ⟨g, j, none⟩ = false) :
    Calls Try.prog 74 #[.slice a n c, .int .i64 k0] w fun e w' => e = .returned (.int .i64 ((k0 + n : Nat) : Int)) ∧ Marked w w' g n k0 n := by
  have HA := Lib.hid ha
  have HO : Hid (Marked w w g n k0 0) := Lib.hid ⟨⟨rfl, rfl, rfl, Nat.le_refl _, fun _ _ _ => rfl⟩, fun j hj => absurd hj (by omega), ho⟩
  clear ha ho
  go_enter Try.func74, Try.ntmps74
  go_wp2
  go_loopw [1, 5] (fun q v wr => ∃ (i : Nat), v = .int .i64 i ∧ i ≤ n ∧ q = .int .i64 ((k0 + i : Nat) : Int) ∧ Hid (Marked w wr g n k0 i)) (fun _ v _ => n - (intOf v).toNat)
  case atStart => exact ⟨0, rfl, Nat.zero_le _, rfl, HO⟩
  case round =>
    obtain ⟨i, rfl, hi, rfl, HM⟩ := hrel
    by_cases hlt : i < n
    · obtain rfl := HA.out (by omega)
      obtain ⟨⟨v, hv⟩, hf⟩ := HM.out.open_ i hlt
      have HG := Lib.hid (World.block_lt_of_cell? _ _ hv)
      have HV := Lib.hid hv
      have HF := Lib.hid hf
      clear hv hf
      go_wp2_with fail
      refine (markText_any (k0 + i) (by omega) (by omega) _).mono ?_
      rintro e w1 ⟨rfl, hb⟩
      have HB := Lib.hid hb
      have c1 : w1.cell? ⟨g, i, none⟩ = some v := (hb.cell (p := ⟨g, i, none⟩) HG.out).trans HV.out
      have f1 : w1.frozen? ⟨g, i, none⟩ = false := (hb.frozen (p := ⟨g, i, none⟩) HG.out).trans HF.out
      have HN := Lib.hid (HM.out.step hlt hb)
      clear hb
      go_wp2
      go_roundw
      case rel => exact ⟨i + 1, by go_num, by omega, by congr 1, HN⟩
      case measure => simp [intOf]; omega
    · obtain rfl : i = n := by omega
      go_wp2
      go_ret
      exact ⟨rfl, HM.out⟩

end Go.Proofs.Ythkafalpjokfeaa
