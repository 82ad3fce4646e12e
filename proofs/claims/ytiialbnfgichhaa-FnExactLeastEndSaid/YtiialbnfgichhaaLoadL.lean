/-
  Plain facts on loads: for how many units each station is busy. No program. Used by the claims on LoadsOf and LeastEnd.
-/
import Derived.Test.YtiialbnfgichhaaHopL
namespace Go.Proofs.Ytiialbnfgichhaa
set_option linter.unusedVariables false
def addAt (f : Nat → Nat) (s x : Nat) : Nat → Nat := fun j => if j = s then f j + x else f j
/-- The station from which a job's k-th hop goes. -/
def stn (j : Jb) (k : Nat) : Nat := (j.fr + way j * k).toNat
def ldHop (j : Jb) : Nat → (Nat → Nat) → (Nat → Nat)
  | 0, f => f
  | k + 1, f => addAt (addAt (ldHop j k f) (stn j k) j.sp.toNat) (stn j (k + 1)) j.sp.toNat
def ldTo (l : List Jb) : Nat → (Nat → Nat)
  | 0 => fun _ => 0
  | i + 1 => ldHop (jAt l i) (stp (jAt l i)).toNat (ldTo l i)
def loads (n : Nat) (l : List Jb) : List Nat := (List.range n).map (ldTo l l.length)
theorem loads_len (n : Nat) (l : List Jb) : (loads n l).length = n := by simp [loads]
theorem stn_at {n : Int} {j : Jb} (hv : JobV n j) {k : Nat} (hk : (k : Int) ≤ stp j) : ((stn j k : Nat) : Int) = j.fr + way j * k ∧ ((stn j k : Nat) : Int) < n := by
  have := hv.fr0
  have := hv.fr1
  have := hv.to0
  have := hv.to1
  unfold stn
  unfold stp at hk
  unfold way
  by_cases e : j.fr < j.to
  · rw [if_pos e] at hk ⊢; omega
  · rw [if_neg e] at hk ⊢; omega
theorem stn_next (j : Jb) {n : Int} (hv : JobV n j) {k : Nat} (hk : (k : Int) + 1 ≤ stp j) : ((stn j (k + 1) : Nat) : Int) = (stn j k : Nat) + way j := by
  rw [(stn_at hv (k := k + 1) (by omega)).1, (stn_at hv (k := k) (by omega)).1]
  unfold way
  by_cases e : j.fr < j.to
  · rw [if_pos e]; omega
  · rw [if_neg e]; omega
theorem addAt_le {f : Nat → Nat} {s x B : Nat} (h : ∀ j, f j ≤ B) (hx : x ≤ 60) : ∀ j, addAt f s x j ≤ B + 60 := fun j => by
  have := h j
  unfold addAt
  by_cases e : j = s
  · rw [if_pos e]; omega
  · rw [if_neg e]; omega
theorem ldHop_le {j : Jb} (hs : j.sp.toNat ≤ 60) {f : Nat → Nat} {B : Nat} (h : ∀ j, f j ≤ B) : ∀ k q, ldHop j k f q ≤ B + 120 * k := by
  intro k
  induction k with
  | zero => intro q; have := h q; simp only [ldHop]; omega
  | succ k ih =>
    intro q
    have := addAt_le (s := stn j (k + 1)) (x := j.sp.toNat) (addAt_le (s := stn j k) (x := j.sp.toNat) ih hs) hs q
    simp only [ldHop]; omega
theorem ldTo_le {n : Int} {l : List Jb} (hv : JobsV n l) : ∀ i, i ≤ l.length → ∀ q, ldTo l i q ≤ 600 * i := by
  intro i
  induction i with
  | zero => intro _ q; simp [ldTo]
  | succ i ih =>
    intro hi q
    have hj := jobV_at hv (k := i) (by omega)
    have hs := stp_pos hj
    have := hv.n1
    have := hj.sp1
    have := ldHop_le (j := jAt l i) (by omega) (ih (by omega)) (stp (jAt l i)).toNat q
    simp only [ldTo]; omega
/-- The k-th hop goes from that station to the next one, wherever it waits. -/
theorem hop_stn {n : Int} {l : List Jb} {ps : List Hp} {i : Nat} (hv : JobsV n l) (hi : i < l.length) {k : Nat} (hk : (k : Int) + 1 ≤ stp (jAt l i)) : (freed l ps (pre l ps i k)).fr = (stn (jAt l i) k : Nat) ∧ nx l (freed l ps (pre l ps i k)) = (stn (jAt l i) (k + 1) : Nat) := by
  have hj := jobV_at hv hi
  have h1 := pre_fr (ps := ps) hj k (by omega)
  have h2 := pre_fr (ps := ps) hj (k + 1) (by omega)
  refine ⟨?_, ?_⟩
  · show (pre l ps i k).fr = _; rw [h1, (stn_at hj (k := k) (by omega)).1]
  · show (pre l ps i (k + 1)).fr = _; rw [h2, (stn_at hj (k := k + 1) (by omega)).1]
theorem stn_lt {n : Int} {m : Nat} (hm : n = (m : Int)) {l : List Jb} (hv : JobsV n l) {i : Nat} (hi : i < l.length) {k : Nat} (hk : (k : Int) ≤ stp (jAt l i)) : stn (jAt l i) k < m := by
  have := (stn_at (jobV_at hv hi) hk).2
  omega
theorem hopsL_at {l : List Jb} {ps : List Hp} {i k : Nat} (hk : k < (hopsL l ps i).length) : (hopsL l ps i)[k] = freed l ps (pre l ps i k) := by simp [hopsL, hopsTo]
theorem hopsL_len (l : List Jb) (ps : List Hp) (i : Int) : (hopsL l ps i).length = (stp (jAt l i)).toNat := hopsTo_len l ps i _
end Go.Proofs.Ytiialbnfgichhaa
