/-
  SafeSubset of the program: the test of what is close, a search by a test, the letters that are far from one another. Used by the claims on chapter 6.
-/
import Derived.Test.YtgdiffdpjpkleaaCpS
namespace Go.Proofs.Ytgdiffdpjpkleaa
open Go.RowKit Go.Maps
set_option linter.unusedVariables false

/-! ### Plain -/
def closeB (xs : List ByteArray) (i j : Nat) : Bool := decide (farP xs (i, j) < 2)
def safeTo (xs : List ByteArray) : Nat → List Nat
  | 0 => []
  | k + 1 => if (safeTo xs k).any (closeB xs k) = true then safeTo xs k else safeTo xs k ++ [k]
theorem safeTo_mem (xs : List ByteArray) : ∀ k, ∀ j ∈ safeTo xs k, j < k
  | 0, j, h => by cases h
  | k + 1, j, h => by
    unfold safeTo at h
    split at h
    · have := safeTo_mem xs k j h; omega
    · rcases List.mem_append.1 h with h | h
      · have := safeTo_mem xs k j h; omega
      · simp only [List.mem_singleton] at h; omega
theorem safeTo_le (xs : List ByteArray) : ∀ k, (safeTo xs k).length ≤ k
  | 0 => Nat.le_refl _
  | k + 1 => by
    have := safeTo_le xs k
    unfold safeTo
    split
    · omega
    · rw [List.length_append]; simp; omega
def idxP (p : Nat → Bool) (l : List Nat) : Int := match l.findIdx? p with | some k => (k : Int) | none => -1
theorem idxP_any (p : Nat → Bool) (l : List Nat) : decide (0 ≤ idxP p l) = l.any p := by
  unfold idxP
  rw [Bool.eq_iff_iff, decide_eq_true_eq]
  cases h : l.findIdx? p with
  | none =>
    rw [List.findIdx?_eq_none_iff] at h
    simp only [List.any_eq_true]
    constructor
    · intro h2; omega
    · rintro ⟨x, hx, hp⟩; rw [h x hx] at hp; cases hp
  | some k =>
    obtain ⟨hk, hp, _⟩ := List.findIdx?_eq_some_iff_getElem.1 h
    simp only [List.any_eq_true]
    exact ⟨fun _ => ⟨l[k], List.getElem_mem hk, hp⟩, fun _ => by omega⟩
theorem idxP_hit {p : Nat → Bool} {l : List Nat} {k : Nat} (hk : k < l.length) (hp : p l[k] = true) (hlow : ∀ j (h : j < k), p (l[j]'(by omega)) = false) : idxP p l = (k : Int) := by
  unfold idxP
  have : l.findIdx? p = some k := List.findIdx?_eq_some_iff_getElem.2 ⟨hk, hp, fun j hj => by rw [hlow j hj]; simp⟩
  rw [this]
theorem idxP_miss {p : Nat → Bool} {l : List Nat} (h : ∀ j (hj : j < l.length), p l[j] = false) : idxP p l = -1 := by
  unfold idxP
  have : l.findIdx? p = none := List.findIdx?_eq_none_iff.2 fun x hx => by
    obtain ⟨j, hj, rfl⟩ := List.getElem_of_mem hx
    exact h j hj
  rw [this]

/-! ### The search -/
set_option maxHeartbeats 2000000 in
theorem indexFunc_any (F : Nat) (lb : Array Value) (hE : ∀ A W, Sem.run Try.prog (callFunc F A) W = .ok (.enter F A) W) (p : Nat → Bool) (l : List Nat) (a : Option Addr) (g c : Nat) (w : World) (hs : SrcV w a g (ints l)) (hl : l.length ≤ 1000)
    (hp : ∀ W j, j ∈ l → Below w.heap.size w W → Calls Try.prog F (#[.int .i64 (j : Int)] ++ lb) W fun e w' => e = .returned (.bool (p j)) ∧ Below W.heap.size W w') :
    Calls Try.prog 126 #[.slice a l.length c, .func (.func F) #[] lb] w fun e w' => e = .returned (.int .i64 (idxP p l)) ∧ Below w.heap.size w w' := by
  have HS := Lib.hid hs
  have HP := Lib.hid hp
  clear hs hp
  go_enter Try.func126, Try.ntmps126
  go_wp2
  go_loopw [8] (fun v wr => ∃ k : Nat, v = .int .i64 k ∧ k ≤ l.length ∧ Hid (Below w.heap.size w wr) ∧ Hid (∀ j (h : j < k) (hj : j < l.length), p l[j] = false)) (fun v _ => l.length - (intOf v).toNat)
  case atStart => exact ⟨0, rfl, Nat.zero_le _, Lib.hid (Below.refl _ _), Lib.hid fun j h => absurd h (Nat.not_lt_zero _)⟩
  case round =>
    obtain ⟨k, rfl, hk, HB, HLo⟩ := hrel
    by_cases hlt : k < l.length
    · obtain rfl := HS.out.1 (by rw [ints_len]; omega)
      have d1 := (HB.out.cell (p := ⟨g, k, none⟩) (World.block_lt_of_cell? _ _ (HS.out.2 k _ (ints_at hlt)))).trans (HS.out.2 k _ (ints_at hlt))
      have HC := Lib.hid (HP.out wr l[k] (List.getElem_mem hlt) HB.out)
      generalize hy : l[k] = y at d1 HC
      have HY := Lib.hid hy
      clear hy
      have hltz : (k : Int) < (l.length : Int) := by omega
      cases hq : p y with
      | true =>
        rw [hq] at HC
        have HI : Hid (idxP p l = (k : Int)) := Lib.hid (idxP_hit hlt (by rw [HY.out, hq]) (fun j h => HLo.out j h _))
        clear hq
        go_wp2_with fail
        refine HC.out.mono ?_
        rintro e w' ⟨rfl, hb'⟩
        have HB2 := Lib.hid (HB.out.trans (hb'.mono HB.out.size))
        clear hb'
        go_wp2
        go_ret
        exact ⟨by rw [HI.out]; rfl, HB2.out⟩
      | false =>
        rw [hq] at HC
        have HL2 : Hid (∀ j (h : j < k + 1) (hj : j < l.length), p l[j] = false) := Lib.hid fun j h hj => by
          by_cases e : j = k
          · subst e; rw [HY.out]; exact hq
          · exact HLo.out j (by omega) hj
        clear hq
        go_wp2_with fail
        refine HC.out.mono ?_
        rintro e w' ⟨rfl, hb'⟩
        have HB2 := Lib.hid (HB.out.trans (hb'.mono HB.out.size))
        clear hb'
        go_wp2
        go_roundw
        case rel => exact ⟨k + 1, by go_num, by omega, HB2, HL2⟩
        case measure => simp [intOf]; omega
    · obtain rfl : k = l.length := by omega
      have HI : Hid (idxP p l = -1) := Lib.hid (idxP_miss fun j hj => HLo.out j hj hj)
      go_wp2
      go_ret
      exact ⟨by rw [HI.out]; rfl, HB.out⟩
theorem containsFunc_any (F : Nat) (lb : Array Value) (hE : ∀ A W, Sem.run Try.prog (callFunc F A) W = .ok (.enter F A) W) (p : Nat → Bool) (l : List Nat) (a : Option Addr) (g c : Nat) (w : World) (hs : SrcV w a g (ints l)) (hl : l.length ≤ 1000)
    (hp : ∀ W j, j ∈ l → Below w.heap.size w W → Calls Try.prog F (#[.int .i64 (j : Int)] ++ lb) W fun e w' => e = .returned (.bool (p j)) ∧ Below W.heap.size W w') :
    Calls Try.prog 104 #[.slice a l.length c, .func (.func F) #[] lb] w fun e w' => e = .returned (.bool (l.any p)) ∧ Below w.heap.size w w' := by
  have HC := Lib.hid (indexFunc_any F lb hE p l a g c w hs hl hp)
  have HA := Lib.hid (idxP_any p l)
  clear hs hp
  generalize idxP p l = z at HC HA
  go_enter Try.func104, Try.ntmps104
  go_wp2_with fail
  refine HC.out.mono ?_
  rintro e w1 ⟨rfl, hb⟩
  have HB := Lib.hid hb
  clear hb
  go_wp2
  go_ret
  exact ⟨by rw [← HA.out]; rfl, HB.out⟩

/-! ### What is close -/
theorem isClose_any (a : Option Addr) (b o c tb mb j : Nat) (xs : List ByteArray) (y : ByteArray) (w : World) (h : ListIn w a b o xs) (h5 : ∀ x ∈ xs, x.size ≤ 5) (hy : y.size ≤ 5) (hj : j < xs.length)
    (hc : w.cell? ⟨tb, 0, none⟩ = some (.slice a xs.length c)) (hm : w.cell? ⟨mb, 0, none⟩ = some (.string y)) :
    Calls Try.prog 103 #[.int .i64 (j : Int), .pointer (some ⟨tb, 0, none⟩), .pointer (some ⟨mb, 0, none⟩)] w fun e w' => e = .returned (.bool (decide (dist (bl (atB xs j)) (bl y) < 2))) ∧ Below w.heap.size w w' := by
  have hl := h.len
  obtain rfl := h.src.1 (by omega)
  have hcell := h.src.2 j _ (List.getElem?_eq_getElem hj)
  have HX := Lib.hid (atB_eq (List.getElem?_eq_getElem hj))
  have hx5 := h5 _ (List.getElem_mem hj)
  generalize xs[j] = x at hcell HX hx5
  rw [HX.out]
  have HDs := Lib.hid fun W => distanceOf_any x y W hx5 hy
  clear h h5
  have j1 : (0 : Int) ≤ (j : Int) := by omega
  have j2 : (j : Int) < (xs.length : Int) := by omega
  have HD : Hid (decide (((dist (bl x) (bl y) : Nat) : Int) < 2) = decide (dist (bl x) (bl y) < 2)) := Lib.hid (decide_eq_decide.2 (by omega))
  generalize dist (bl x) (bl y) = d at HDs HD ⊢
  go_enter Try.func103, Try.ntmps103
  go_wp2
  go_region_held3 (fun w' => w'.cell? ⟨tb, 0, none⟩ = some (.slice (some ⟨b, o, none⟩) xs.length c) ∧ w'.cell? ⟨b, o + j, none⟩ = some (.string x) ∧ w'.cell? ⟨mb, 0, none⟩ = some (.string y))
    (first
      | go_keep
      | (go_split_ands
         refine ⟨cell_below hb2 (by assumption), cell_below hb2 (by assumption), cell_below hb2 (by assumption)⟩))
    ((go_at_call 78; refine (HDs.out _).mono ?_; rintro e w2 ⟨rfl, hb2⟩))
  have HB2 : Hid (Below w.heap.size w w2) := Lib.hid ((Below.refl _ _).drew.trans hb2)
  clear hb2
  go_wp2
  go_ret
  exact ⟨by rw [← HD.out]; rfl, HB2.out⟩
end Go.Proofs.Ytgdiffdpjpkleaa
