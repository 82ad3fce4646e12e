/-
  ChancesSent of the program: what can come of any letter, the chances divided by their sum. Used by the claims on chapter 7.
-/
import Derived.Test.YtomhjfjfmjacfaaSntS
namespace Go.Proofs.Ytomhjfjfmjacfaa
open Go.RowKit Go.Maps
set_option linter.unusedVariables false

/-! ### Plain -/
theorem any_can (p q : Nat) (y : ByteArray) : ∀ xs : List ByteArray, (xs.any fun x => canN p q (bl x) (bl y)) = decide (0 < (snL p q xs (bl y)).sum)
  | [] => by simp [snL]
  | x :: xs => by
    have ih := any_can p q y xs
    have e : (snL p q (x :: xs) (bl y)).sum = ptN p q (bl x) (bl y) + (snL p q xs (bl y)).sum := by simp [snL]
    rw [List.any_cons, ih, e]
    unfold canN
    rw [Bool.eq_iff_iff]
    simp only [Bool.or_eq_true, decide_eq_true_eq]
    omega
def idxB (p : ByteArray → Bool) (l : List ByteArray) : Int := match l.findIdx? p with | some k => (k : Int) | none => -1
theorem idxB_any (p : ByteArray → Bool) (l : List ByteArray) : decide (0 ≤ idxB p l) = l.any p := by
  unfold idxB
  rw [Bool.eq_iff_iff, decide_eq_true_eq]
  cases h : l.findIdx? p with
  | none =>
    rw [List.findIdx?_eq_none_iff] at h
    simp only [List.any_eq_true]
    constructor
    · intro h2; omega
    · rintro ⟨x, hx, hp⟩; rw [h x hx] at hp; cases hp
  | some k =>
    obtain ⟨hk, hp, _⟩ := List.findIdx?_eq_some_iff_getElem.1 h
    simp only [List.any_eq_true]
    exact ⟨fun _ => ⟨l[k], List.getElem_mem hk, hp⟩, fun _ => by omega⟩
theorem idxB_hit {p : ByteArray → Bool} {l : List ByteArray} {k : Nat} (hk : k < l.length) (hp : p l[k] = true) (hlow : ∀ j (h : j < k), p (l[j]'(by omega)) = false) : idxB p l = (k : Int) := by
  unfold idxB
  have : l.findIdx? p = some k := List.findIdx?_eq_some_iff_getElem.2 ⟨hk, hp, fun j hj => by rw [hlow j hj]; simp⟩
  rw [this]
theorem idxB_miss {p : ByteArray → Bool} {l : List ByteArray} (h : ∀ j (hj : j < l.length), p l[j] = false) : idxB p l = -1 := by
  unfold idxB
  have : l.findIdx? p = none := List.findIdx?_eq_none_iff.2 fun x hx => by
    obtain ⟨j, hj, rfl⟩ := List.getElem_of_mem hx
    exact h j hj
  rw [this]
def updL (S D : Nat) (ps : List Nat) (k : Nat) : List (Nat × Nat) := frs S (ps.take k) ++ frs D (ps.drop k)
theorem upd_len (S D : Nat) (ps : List Nat) (k : Nat) : (updL S D ps k).length = ps.length := by
  unfold updL frs
  rw [List.length_append, List.length_map, List.length_map, List.length_take, List.length_drop]
  omega
theorem upd_at {S D : Nat} {ps : List Nat} {k : Nat} (h : k < ps.length) : (updL S D ps k)[k]? = some (cutN ps[k] D) := by
  unfold updL
  rw [List.getElem?_append_right (by rw [frs_len, List.length_take]; omega), frs_len, List.length_take, Nat.min_eq_left (by omega), Nat.sub_self, List.drop_eq_getElem_cons h]
  rfl
theorem upd_succ {S D : Nat} {ps : List Nat} {k : Nat} (h : k < ps.length) : updL S D ps (k + 1) = (updL S D ps k).set k (cutN ps[k] S) := by
  unfold updL
  have e1 : frs S (ps.take (k + 1)) = frs S (ps.take k) ++ [cutN ps[k] S] := by
    rw [frs_succ (List.getElem?_eq_getElem h)]
  have e2 : frs D (ps.drop k) = cutN ps[k] D :: frs D (ps.drop (k + 1)) := by rw [List.drop_eq_getElem_cons h]; rfl
  have hl : (frs S (ps.take k)).length = k := by rw [frs_len, List.length_take]; omega
  rw [e1, e2, List.set_append, if_neg (by omega), hl, Nat.sub_self, List.set_cons_zero, List.append_assoc]
  rfl
def CellsP (W : World) (g : Nat) (l : List (Nat × Nat)) : Prop := ∀ j x, (prs l)[j]? = some x → W.cell? ⟨g, j, none⟩ = some x
theorem set_off {W : World} {g m n : Nat} {v : Value} (h : m ≠ n) : (W.setCell ⟨g, m, none⟩ v).cell? ⟨g, n, none⟩ = W.cell? ⟨g, n, none⟩ := World.cell?_setCell_other _ _ _ _ (fun e => h (by injection e))
theorem set_on {W : World} {p : Addr} {u v : Value} (h : W.cell? p = some u) : (W.setCell p v).cell? p = some v := by
  first | exact World.cell?_setCell_same _ _ _ h | exact World.cell?_setCell_same' _ _ _ (by rw [h]; rfl)
theorem cells_set {W : World} {g k u v : Nat} {l : List (Nat × Nat)} (hc : CellsP W g l) (hk : k < l.length) :
    CellsP ((W.setCell ⟨g, k * 2, none⟩ (.int .i64 u)).setCell ⟨g, k * 2 + 1, none⟩ (.int .i64 v)) g (l.set k (u, v)) := by
  intro j x hj
  have hjl : j < (prs (l.set k (u, v))).length := (List.getElem?_eq_some_iff.1 hj).1
  rw [prs_len, List.length_set] at hjl
  obtain ⟨i, hi, hij⟩ : ∃ i, i < l.length ∧ (j = 2 * i ∨ j = 2 * i + 1) := ⟨j / 2, by omega, by omega⟩
  have hi' : i < (l.set k (u, v)).length := by rw [List.length_set]; exact hi
  have ha := prs_at hi'
  have hb := prs_at hi
  have ck0 := hc _ _ (prs_at hk).1
  have ck1 := hc _ _ (prs_at hk).2
  have n2 : 2 * k = k * 2 := Nat.mul_comm _ _
  rw [n2] at ck0 ck1
  by_cases hik : i = k
  · subst hik
    rw [List.getElem_set_self] at ha
    rcases hij with rfl | rfl
    · rw [ha.1] at hj
      obtain rfl := Option.some.inj hj
      rw [n2, set_off (by omega), set_on ck0]
    · rw [ha.2] at hj
      obtain rfl := Option.some.inj hj
      rw [n2]
      exact set_on (u := .int .i64 (l[i].2 : Int)) (by rw [set_off (by omega)]; exact ck1)
  · rw [List.getElem_set_ne (by omega)] at ha
    rcases hij with rfl | rfl
    · rw [ha.1] at hj
      obtain rfl := Option.some.inj hj
      rw [set_off (by omega), set_off (by omega)]
      exact hc _ _ hb.1
    · rw [ha.2] at hj
      obtain rfl := Option.some.inj hj
      rw [set_off (by omega), set_off (by omega)]
      exact hc _ _ hb.2

/-! ### The search -/
set_option maxHeartbeats 2000000 in
theorem indexFuncB_any (F : Nat) (lb : Array Value) (p : ByteArray → Bool) (l : List ByteArray) (a : Option Addr) (g o c : Nat) (w : World) (hs : ListIn w a g o l) (hl : l.length ≤ 1000)
    (hp : ∀ W x, x ∈ l → Below w.heap.size w W → Calls Try.prog F (#[.string x] ++ lb) W fun e w' => e = .returned (.bool (p x)) ∧ Below W.heap.size W w') (hE : ∀ A W, Sem.run Try.prog (callFunc F A) W = .ok (.enter F A) W) :
    Calls Try.prog 100 #[.slice a l.length c, .func (.func F) #[] lb] w fun e w' => e = .returned (.int .i64 (idxB p l)) ∧ Below w.heap.size w w' := by
  have HS := Lib.hid hs
  have HP := Lib.hid hp
  clear hs hp
  go_enter Try.func100, Try.ntmps100
  go_wp2
  go_loopw [8] (fun v wr => ∃ k : Nat, v = .int .i64 k ∧ k ≤ l.length ∧ Hid (Below w.heap.size w wr) ∧ Hid (∀ j (h : j < k) (hj : j < l.length), p l[j] = false)) (fun v _ => l.length - (intOf v).toNat)
  case atStart => exact ⟨0, rfl, Nat.zero_le _, Lib.hid (Below.refl _ _), Lib.hid fun j h => absurd h (Nat.not_lt_zero _)⟩
  case round =>
    obtain ⟨k, rfl, hk, HB, HLo⟩ := hrel
    by_cases hlt : k < l.length
    · obtain rfl := HS.out.src.1 (by omega)
      have d1 := (HS.out.below HB.out).src.2 k _ (List.getElem?_eq_getElem hlt)
      have HC := Lib.hid (HP.out wr l[k] (List.getElem_mem hlt) HB.out)
      generalize hy : l[k] = y at d1 HC
      have HY := Lib.hid hy
      clear hy
      have j0 : (0 : Int) ≤ (k : Int) := by omega
      have hltz : (k : Int) < (l.length : Int) := by omega
      cases hq : p y with
      | true =>
        rw [hq] at HC
        have HI : Hid (idxB p l = (k : Int)) := Lib.hid (idxB_hit hlt (by rw [HY.out, hq]) (fun j h => HLo.out j h _))
        clear hq
        go_wp2_with fail
        refine HC.out.mono ?_
        rintro e w' ⟨rfl, hb'⟩
        have HB2 := Lib.hid (HB.out.trans (hb'.mono HB.out.size))
        clear hb'
        go_wp2
        go_ret
        exact ⟨by rw [HI.out]; rfl, HB2.out⟩
      | false =>
        rw [hq] at HC
        have HL2 : Hid (∀ j (h : j < k + 1) (hj : j < l.length), p l[j] = false) := Lib.hid fun j h hj => by
          by_cases e : j = k
          · subst e; rw [HY.out]; exact hq
          · exact HLo.out j (by omega) hj
        clear hq
        go_wp2_with fail
        refine HC.out.mono ?_
        rintro e w' ⟨rfl, hb'⟩
        have HB2 := Lib.hid (HB.out.trans (hb'.mono HB.out.size))
        clear hb'
        go_wp2
        go_roundw
        case rel => exact ⟨k + 1, by go_num, by omega, HB2, HL2⟩
        case measure => simp [intOf]; omega
    · obtain rfl : k = l.length := by omega
      have HI : Hid (idxB p l = -1) := Lib.hid (idxB_miss fun j hj => HLo.out j hj hj)
      go_wp2
      go_ret
      exact ⟨by rw [HI.out]; rfl, HB.out⟩
theorem containsFuncB_any (F : Nat) (lb : Array Value) (p : ByteArray → Bool) (l : List ByteArray) (a : Option Addr) (g o c : Nat) (w : World) (hs : ListIn w a g o l) (hl : l.length ≤ 1000)
    (hp : ∀ W x, x ∈ l → Below w.heap.size w W → Calls Try.prog F (#[.string x] ++ lb) W fun e w' => e = .returned (.bool (p x)) ∧ Below W.heap.size W w') (hE : ∀ A W, Sem.run Try.prog (callFunc F A) W = .ok (.enter F A) W) :
    Calls Try.prog 73 #[.slice a l.length c, .func (.func F) #[] lb] w fun e w' => e = .returned (.bool (l.any p)) ∧ Below w.heap.size w w' := by
  have HC := Lib.hid (indexFuncB_any F lb p l a g o c w hs hl hp hE)
  have HA := Lib.hid (idxB_any p l)
  clear hs hp
  generalize idxB p l = z at HC HA
  go_enter Try.func73, Try.ntmps73
  go_wp2_with fail
  refine HC.out.mono ?_
  rintro e w1 ⟨rfl, hb⟩
  have HB := Lib.hid hb
  clear hb
  go_wp2
  go_ret
  exact ⟨by rw [← HA.out]; rfl, HB.out⟩
set_option maxHeartbeats 2000000 in
set_option maxRecDepth 20000 in
theorem canClose_any (p q d gN gS : Nat) (x y : ByteArray) (w : World) (hd : d = p + q) (h1 : 1 ≤ d) (hx : marksL (bl x) = true) (hy : marksL (bl y) = true) (hN : Pr2 25 w gN (p : Int) (d : Int)) (hS : w.cell? ⟨gS, 0, none⟩ = some (.string y)) :
    Calls Try.prog 74 #[.string x, .pointer (some ⟨gN, 0, none⟩), .pointer (some ⟨gS, 0, none⟩)] w fun e w' => e = .returned (.bool (canN p q (bl x) (bl y))) ∧ Below w.heap.size w w' := by
  have C := Lib.hid fun W => canCome_any p q p d x y W rfl (by rw [hd]) (by omega) hx hy
  have k0 := hN.cell0
  have k1 := hN.cell1
  clear hN hd h1 hx hy
  go_enter Try.func74, Try.ntmps74
  go_wp2_with fail
  refine (C.out _).mono ?_
  rintro e w1 ⟨rfl, hb⟩
  have HB := Lib.hid hb
  clear hb k0 k1 hS
  go_wp2
  go_ret
  exact ⟨rfl, HB.out⟩
end Go.Proofs.Ytomhjfjfmjacfaa
