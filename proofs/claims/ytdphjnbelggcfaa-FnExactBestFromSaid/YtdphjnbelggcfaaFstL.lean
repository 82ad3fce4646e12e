/-
  l8First of the model: letter by letter the first text with which the least cost can be had. Used by the claims on chapter 8.
-/
import Derived.Test.YtdphjnbelggcfaaPutS
import Derived.Test.YtdphjnbelggcfaaBstS
namespace Go.Proofs.Ytdphjnbelggcfaa
open Go.RowKit
set_option linter.unusedVariables false

theorem src_of_own {w : World} {base : Nat} {v : Value} {n : Nat} {ys : List ByteArray} (h : w.ownsRow base 9 1 v n (ys.map Value.string)) : ∃ a g c, v = .slice a n c ∧ Src w a g 0 ys ∧ (0 < ys.length → base ≤ g ∧ a = some ⟨g, 0, none⟩) ∧ n ≤ c := by
  obtain ⟨a, g, c, rfl, hs, hb, hf⟩ := seq_of_row h
  refine ⟨a, g, c, rfl, ⟨fun h0 => hs.1 (by simpa using h0), fun j x hx => ?_⟩, fun h0 => ⟨hb (by simpa using h0), hs.1 (by simpa using h0)⟩, row_cap h⟩
  rw [Nat.zero_add]
  exact hs.2 j _ (by rw [List.getElem?_map, hx]; rfl)
theorem srcI_take {w : World} {a : Option Addr} {g o : Nat} {us : List Nat} (h : SrcI w a g o (zs us)) (i : Nat) : SrcI w a g o (zs (us.take i)) :=
  ⟨fun h0 => h.1 (by rw [zs_len] at h0 ⊢; rw [List.length_take] at h0; omega), fun j x hx => by
    refine h.2 j x ?_
    unfold zs at hx ⊢
    rw [List.map_take] at hx
    have hj : j < i := by
      have := (List.getElem?_eq_some_iff.1 hx).1
      rw [List.length_take] at this; omega
    rwa [List.getElem?_take_of_lt hj] at hx⟩
theorem srcI_drop {w : World} {a a' : Option Addr} {g o : Nat} {us : List Nat} (h : SrcI w a g o (zs us)) (i : Nat) (ha : i < us.length → a' = some ⟨g, o + i, none⟩) : SrcI w a' g (o + i) (zs (us.drop i)) :=
  ⟨fun h0 => ha (by rw [zs_len, List.length_drop] at h0; omega), fun j x hx => by
    unfold zs at hx
    rw [List.map_drop, List.getElem?_drop] at hx
    rw [Nat.add_assoc]
    exact h.2 (i + j) x hx⟩
/-- What the outer loop keeps, plainly: what is taken, and what is left. -/
structure FstI (L : List ByteArray) (us : List Nat) (i : Nat) (outL left : List ByteArray) : Prop where
  ol : outL.length = i
  ll : left.length + i = L.length
  eq : outL ++ fstL left (us.drop i) = fstL L us
  srt : (tL left).Pairwise (· ≤ ·)
  cost : cst (uAt us) (tAt outL) i + bc (tL left) (us.drop i) = bc (tL L) us
  mo : ∀ y ∈ outL, marksL (bl y) = true
  ml : ∀ y ∈ left, marksL (bl y) = true
theorem FstI.start {L : List ByteArray} {us : List Nat} (hs : (tL L).Pairwise (· ≤ ·)) (hm : ∀ y ∈ L, marksL (bl y) = true) : FstI L us 0 [] L :=
  ⟨rfl, rfl, rfl, hs, by simp [cst], fun y hy => by simp at hy, hm⟩
theorem drop_one {us : List Nat} {i : Nat} (h : i < us.length) : us.drop i = uAt us i :: us.drop (i + 1) := by
  rw [List.drop_eq_getElem_cons h, uAt_eq h]
/-- The place that is taken. -/
def pkF (us : List Nat) (i : Nat) (left : List ByteArray) : Nat := fP left (tAt left (cAb (uAt us i) (us.drop (i + 1))))
theorem FstI.pick {L : List ByteArray} {us : List Nat} {i : Nat} {outL left : List ByteArray} (h : FstI L us i outL left) (hi : i < us.length) (hl : us.length ≤ L.length) :
    pkF us i left < left.length ∧ (∀ k, k < pkF us i left → bc (tL L) us < cst (uAt us) (tAt outL) i + uAt us i * tAt left k + bc (tL (left.eraseIdx k)) (us.drop (i + 1))) ∧
    cst (uAt us) (tAt outL) i + uAt us i * tAt left (pkF us i left) + bc (tL (left.eraseIdx (pkF us i left))) (us.drop (i + 1)) = bc (tL L) us := by
  have hll := h.ll
  have hd : (us.drop (i + 1)).length + 1 ≤ left.length := by rw [List.length_drop]; omega
  obtain ⟨h1, h2, h3⟩ := pick_first (L := left) (us := us.drop (i + 1)) (x := uAt us i) h.srt hd
  have hc := h.cost
  rw [drop_one hi] at hc
  refine ⟨h1, fun k hk => ?_, ?_⟩
  · have := h2 k hk; omega
  · unfold pkF; omega
theorem FstI.next {L : List ByteArray} {us : List Nat} {i : Nat} {outL left : List ByteArray} (h : FstI L us i outL left) (hi : i < us.length) (hl : us.length ≤ L.length) :
    FstI L us (i + 1) (outL ++ [left.getD (pkF us i left) ⟨#[]⟩]) (left.eraseIdx (pkF us i left)) := by
  obtain ⟨h1, h2, h3⟩ := h.pick hi hl
  have hll := h.ll
  have hol := h.ol
  have e1 : left.getD (pkF us i left) ⟨#[]⟩ = left[pkF us i left] := by rw [List.getD_eq_getElem?_getD, List.getElem?_eq_getElem h1]; rfl
  refine ⟨by simp [hol], by rw [erase_len _ _ h1]; omega, ?_, ?_, ?_, fun y hy => ?_, fun y hy => h.ml y (List.mem_of_mem_eraseIdx hy)⟩
  · rw [← h.eq, drop_one hi, fstL, List.append_assoc]; rfl
  · rw [tL_erase]; exact sorted_erase h.srt _
  · rw [cst]
    have e2 : cst (uAt us) (tAt (outL ++ [left.getD (pkF us i left) ⟨#[]⟩])) i = cst (uAt us) (tAt outL) i := cst_congr i fun k hk => ⟨rfl, by
      unfold tAt
      rw [List.getD_eq_getElem?_getD, List.getElem?_append_left (by omega), ← List.getD_eq_getElem?_getD]⟩
    have e3 : tAt (outL ++ [left.getD (pkF us i left) ⟨#[]⟩]) i = tAt left (pkF us i left) := by
      unfold tAt
      rw [List.getD_eq_getElem?_getD, List.getElem?_append_right (by omega), hol, Nat.sub_self]
      rfl
    rw [e2, e3]; exact h3
  · rcases List.mem_append.1 hy with hy | hy
    · exact h.mo y hy
    · rw [e1] at hy
      simp at hy; subst hy
      exact h.ml _ (List.getElem_mem h1)
theorem FstI.done {L : List ByteArray} {us : List Nat} {outL left : List ByteArray} (h : FstI L us us.length outL left) : outL = fstL L us := by
  have := h.eq
  rw [List.drop_of_length_le (Nat.le_refl _), fstL, List.append_nil] at this
  exact this
end Go.Proofs.Ytdphjnbelggcfaa
