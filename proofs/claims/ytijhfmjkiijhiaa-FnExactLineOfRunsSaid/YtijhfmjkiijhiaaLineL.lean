/-
  Plain facts on lines of beats: which texts are lines, where they are on, clashes, joined lines, stretched lines, the line of a signal. No program. Used by the claims on chapter 4.
-/
import Derived.Test.YtijhfmjkiijhiaaTabT
namespace Go.Proofs.Ytijhfmjkiijhiaa

def isBeat (c : UInt8) : Bool := c == 48 || c == 49
def lineL (l : Bs) : Bool := decide (l.length ≤ 200) && l.all isBeat
theorem line_len {l : Bs} (h : lineL l = true) : l.length ≤ 200 := by
  simp only [lineL, Bool.and_eq_true, decide_eq_true_eq] at h; exact h.1
theorem line_beat {l : Bs} (h : lineL l = true) {c : UInt8} (hc : c ∈ l) : c = 48 ∨ c = 49 := by
  simp only [lineL, Bool.and_eq_true] at h
  have := List.all_eq_true.1 h.2 c hc
  simpa [isBeat] using this
theorem line_at {l : Bs} (h : lineL l = true) {k : Nat} {c : UInt8} (hc : l[k]? = some c) : c = 48 ∨ c = 49 := line_beat h (List.mem_of_getElem? hc)
theorem line_mk {l : Bs} (h : l.length ≤ 200) (h2 : ∀ c ∈ l, c = 48 ∨ c = 49) : lineL l = true := by
  simp only [lineL, Bool.and_eq_true, decide_eq_true_eq]
  exact ⟨h, List.all_eq_true.2 fun c hc => by simpa [isBeat] using h2 c hc⟩

/-! ### Where a line is on -/
def onAt (l : Bs) (i : Nat) : Bool := l[i]? == some 49
theorem onAt_some {l : Bs} {i : Nat} {c : UInt8} (h : l[i]? = some c) : onAt l i = (c == 49) := by simp [onAt, h]
theorem onAt_out {l : Bs} {i : Nat} (h : l.length ≤ i) : onAt l i = false := by simp [onAt, List.getElem?_eq_none h]
theorem onAt_drop (l : Bs) (n i : Nat) : onAt (l.drop n) i = onAt l (i + n) := by simp [onAt, List.getElem?_drop, Nat.add_comm]
def clashTo (a b : Bs) (n : Nat) : Nat → Nat
  | 0 => 0
  | k + 1 => clashTo a b n k + (if (onAt b k && onAt a (k + n)) = true then 1 else 0)
theorem clashTo_le (a b : Bs) (n : Nat) : ∀ k, clashTo a b n k ≤ k
  | 0 => Nat.le_refl _
  | k + 1 => by have := clashTo_le a b n k; unfold clashTo; split <;> omega
def clash (a b : Bs) (n : Nat) : Nat := clashTo a b n b.length
theorem clashTo_out (a b : Bs) (n m : Nat) (h : a.length ≤ m + n ∨ b.length ≤ m) : ∀ d, clashTo a b n (m + d) = clashTo a b n m
  | 0 => rfl
  | d + 1 => by
    rw [← Nat.add_assoc, clashTo, clashTo_out a b n m h d]
    have : (onAt b (m + d) && onAt a (m + d + n)) = false := by
      rcases h with h | h
      · rw [onAt_out (l := a) (by omega), Bool.and_false]
      · rw [onAt_out (l := b) (by omega), Bool.false_and]
    simp [this]
theorem clash_min (a b : Bs) (n : Nat) : clashTo a b n (min (a.length - n) b.length) = clash a b n := by
  unfold clash
  by_cases h : b.length ≤ a.length - n
  · rw [Nat.min_eq_right h]
  · have e := clashTo_out a b n (a.length - n) (.inl (by omega)) (b.length - (a.length - n))
    rw [Nat.add_sub_cancel' (by omega)] at e
    rw [Nat.min_eq_left (by omega), e]
theorem clashTo_drop (a b : Bs) (n : Nat) : ∀ k, clashTo (a.drop n) b 0 k = clashTo a b n k
  | 0 => rfl
  | k + 1 => by unfold clashTo; rw [clashTo_drop a b n k, onAt_drop, Nat.add_zero]
theorem clash_drop (a b : Bs) (n : Nat) : clashTo (a.drop n) b 0 (min (a.drop n).length b.length) = clash a b n := by
  rw [clashTo_drop, List.length_drop, clash_min]
theorem clash_end (a b : Bs) (n : Nat) (h : a.length ≤ n) : clash a b n = 0 := by
  have := clashTo_out a b n 0 (.inl (by omega)) b.length
  rw [Nat.zero_add] at this
  exact this
theorem clash_comm (a b : Bs) : clash a b 0 = clash b a 0 := by
  have e : ∀ k, clashTo a b 0 k = clashTo b a 0 k := by
    intro k
    induction k with
    | zero => rfl
    | succ k ih => unfold clashTo; rw [ih, Nat.add_zero, Bool.and_comm]
  rw [← clash_min, ← clash_min, e, Nat.sub_zero, Nat.sub_zero, Nat.min_comm]

/-! ### Joined and stretched lines -/
def beatOf (b : Bool) : UInt8 := if b = true then 49 else 48
def joinTo (a b : Bs) : Nat → Bs
  | 0 => []
  | k + 1 => joinTo a b k ++ [beatOf (onAt a k || onAt b k)]
theorem joinTo_len (a b : Bs) : ∀ k, (joinTo a b k).length = k
  | 0 => rfl
  | k + 1 => by simp [joinTo, joinTo_len a b k]
def strTo (l : Bs) (k : Nat) : Nat → Bs
  | 0 => []
  | j + 1 => strTo l k j ++ List.replicate k (l.getD j 0)
theorem strTo_len (l : Bs) (k : Nat) : ∀ j, (strTo l k j).length = j * k
  | 0 => by simp [strTo]
  | j + 1 => by simp [strTo, strTo_len l k j, Nat.succ_mul]

/-! ### The line of a signal -/
def beatsOf (c : UInt8) : Bs := List.replicate (sg c) (if isMk c = true then 49 else 48)
def gapOf (s : Bs) (k : Nat) (c : UInt8) : Bs := if (decide (0 < k) && isMk (s.getD (k - 1) 0) && isMk c) = true then [48] else []
def lnTo (s : Bs) : Nat → Bs
  | 0 => []
  | k + 1 => lnTo s k ++ (gapOf s k (s.getD k 0) ++ beatsOf (s.getD k 0))
def lnL (s : Bs) : Bs := lnTo s s.length
theorem gapOf_len (s : Bs) (k : Nat) (c : UInt8) : (gapOf s k c).length ≤ 1 := by unfold gapOf; split <;> simp
theorem sg_le (c : UInt8) : sg c ≤ 7 := by unfold sg; split <;> (try split) <;> (try split) <;> omega
theorem lnTo_le (s : Bs) : ∀ k, (lnTo s k).length ≤ 8 * k
  | 0 => by simp [lnTo]
  | k + 1 => by
    have h1 := lnTo_le s k
    have h2 := gapOf_len s k (s.getD k 0)
    have h3 := sg_le (s.getD k 0)
    simp only [lnTo, beatsOf, List.length_append, List.length_replicate]
    omega
def prevMk (s : Bs) (k : Nat) : Bool := decide (0 < k) && isMk (s.getD (k - 1) 0)
theorem lnTo_time (s : Bs) : ∀ n k, k + n = s.length → (lnTo s s.length).length = (lnTo s k).length + tmGo (prevMk s k) (s.drop k)
  | 0, k, h => by
    have e : k = s.length := by omega
    subst e
    simp [tmGo]
  | n + 1, k, h => by
    rw [lnTo_time s n (k + 1) (by omega)]
    rw [List.drop_eq_getElem_cons (show k < s.length by omega)]
    have e : s.getD k 0 = s[k]'(by omega) := by simp [List.getD, List.getElem?_eq_getElem (show k < s.length by omega)]
    have e2 : prevMk s (k + 1) = isMk (s[k]'(by omega)) := by simp [prevMk, List.getElem?_eq_getElem (show k < s.length by omega)]
    have e3 : (gapOf s k (s[k]'(by omega))).length = if (prevMk s k && isMk (s[k]'(by omega))) = true then 1 else 0 := by
      unfold gapOf prevMk; split <;> rfl
    simp only [lnTo, tmGo, List.length_append, e2, e, beatsOf, List.length_replicate, e3]
    omega
theorem ln_time (s : Bs) : (lnL s).length = tmGo false s := by
  have := lnTo_time s s.length 0 (by omega)
  simpa [lnL, lnTo, prevMk] using this
end Go.Proofs.Ytijhfmjkiijhiaa
