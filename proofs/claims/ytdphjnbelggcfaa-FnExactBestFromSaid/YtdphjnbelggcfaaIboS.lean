/-
  IsBestOrder, the program's and the model's. Used by the claims on chapter 8.
-/
import Derived.Test.YtdphjnbelggcfaaPutS
import Derived.Test.YtdphjnbelggcfaaBstS
import Derived.Test.YtdphjnbelggcfaaBfrP
import Derived.Deep.RegionHeld3
namespace Go.Proofs.Ytdphjnbelggcfaa
open Go.RowKit
set_option linter.unusedVariables false



theorem insB_has (L : List ByteArray) (x y : ByteArray) : y ∈ insB L x ↔ y ∈ L ∨ y = x := by
  constructor
  · exact insB_mem
  · intro h
    unfold insB
    rw [List.mem_append, List.mem_cons]
    rcases h with h | h
    · have h2 : y ∈ L.take (posB L x) ++ L.drop (posB L x) := by rw [List.take_append_drop]; exact h
      rcases List.mem_append.1 h2 with h3 | h3
      · exact .inl h3
      · exact .inr (.inr h3)
    · exact .inr (.inl h)
theorem insB_cons (y : ByteArray) (L : List ByteArray) (x : ByteArray) : insB (y :: L) x = if befL (bl y) (bl x) = true then y :: insB L x else x :: y :: L := by
  unfold insB
  rw [posB]
  split <;> simp
theorem bl_inj' {x y : ByteArray} (e : bl x = bl y) : x = y := by
  cases x; cases y
  simp only [bl] at e
  congr 1
  exact Array.ext' e
theorem insB_srt : ∀ (L : List ByteArray) (x : ByteArray), SrtB L → x ∉ L → SrtB (insB L x)
  | [], x, _, _ => by simp [insB, posB, SrtB]
  | y :: L, x, h, hx => by
    unfold SrtB at h
    rw [List.pairwise_cons] at h
    have hne : bl x ≠ bl y := fun e => hx (by rw [bl_inj' e]; simp)
    rw [insB_cons]
    by_cases hb : befL (bl y) (bl x) = true
    · rw [if_pos hb]
      refine List.pairwise_cons.2 ⟨fun z hz => ?_, insB_srt L x h.2 (fun h2 => hx (List.mem_cons_of_mem _ h2))⟩
      rcases insB_mem hz with h2 | h2
      · exact h.1 z h2
      · rw [h2]; exact hb
    · rw [if_neg hb]
      have hxy : befL (bl x) (bl y) = true := by
        rcases bef_total hne with h2 | h2
        · exact h2
        · exact absurd h2 hb
      refine List.pairwise_cons.2 ⟨fun z hz => ?_, List.pairwise_cons.2 h⟩
      rcases List.mem_cons.1 hz with h2 | h2
      · rw [h2]; exact hxy
      · exact bef_trans hxy (h.1 z h2)
/-- The texts in the order of times. -/
def srtX (xs : List ByteArray) : List ByteArray := xs.foldl insB []
theorem foldl_srt : ∀ (xs L : List ByteArray), SrtB L → xs.Nodup → (∀ x ∈ xs, x ∉ L) → SrtB (xs.foldl insB L) ∧ (∀ x, x ∈ xs.foldl insB L ↔ x ∈ L ∨ x ∈ xs) ∧ (xs.foldl insB L).length = L.length + xs.length
  | [], L, h, _, _ => ⟨h, fun x => by simp, by simp⟩
  | x :: xs, L, h, hn, hd => by
    rw [List.nodup_cons] at hn
    have ih := foldl_srt xs (insB L x) (insB_srt L x h (hd x (by simp))) hn.2 (fun z hz h2 => by
      rcases insB_mem h2 with h3 | h3
      · exact hd z (List.mem_cons_of_mem _ hz) h3
      · rw [h3] at hz; exact hn.1 hz)
    refine ⟨ih.1, fun z => ?_, ?_⟩
    · rw [List.foldl_cons, ih.2.1 z, insB_has, List.mem_cons]
      constructor
      · rintro ((h1 | h1) | h1)
        · exact .inl h1
        · exact .inr (.inl h1)
        · exact .inr (.inr h1)
      · rintro (h1 | h1 | h1)
        · exact .inl (.inl h1)
        · exact .inl (.inr h1)
        · exact .inr h1
    · rw [List.foldl_cons, ih.2.2, insB_len, List.length_cons]; omega
theorem srtX_srt {xs : List ByteArray} (h : xs.Nodup) : SrtB (srtX xs) ∧ (∀ x, x ∈ srtX xs ↔ x ∈ xs) ∧ (srtX xs).length = xs.length := by
  have := foldl_srt xs [] (by simp [SrtB]) h (fun x _ => by simp)
  exact ⟨this.1, fun x => by rw [srtX, this.2.1]; simp, by rw [srtX, this.2.2]; simp⟩
theorem srtX_eq {xs ys : List ByteArray} (h : xs.Nodup) (hs : SrtB ys) (hm : ∀ x, x ∈ ys ↔ x ∈ xs) : ys = srtX xs :=
  srt_unique hs (srtX_srt h).1 fun x => (hm x).trans ((srtX_srt h).2.1 x).symm
theorem srtB_nodup {ys : List ByteArray} (h : SrtB ys) : ys.Nodup := List.Pairwise.imp (fun {a b} hb e => by rw [e, bef_irrefl] at hb; cases hb) h
theorem fstL_mem : ∀ (L : List ByteArray) (us : List Nat), us.length ≤ L.length → (tL L).Pairwise (· ≤ ·) → L.Nodup → (∀ x ∈ fstL L us, x ∈ L) ∧ (fstL L us).Nodup
  | L, [], _, _, _ => ⟨fun x hx => by simp [fstL] at hx, by simp [fstL]⟩
  | L, u :: us, hl, hs, hn => by
    have hc : cAb u us < L.length := by have := cAb_le u us; simp only [List.length_cons] at hl; omega
    obtain ⟨h1, _, _⟩ := fP_at (L := L) hc rfl
    have hp : fP L (tAt L (cAb u us)) < L.length := by omega
    rw [fstL]
    generalize fP L (tAt L (cAb u us)) = p at hp
    have ih := fstL_mem (L.eraseIdx p) us (by rw [erase_len _ _ hp]; simp only [List.length_cons] at hl; omega) (by rw [tL_erase]; exact sorted_erase hs _) (hn.sublist (List.eraseIdx_sublist _ _))
    have hg : L.getD p ⟨#[]⟩ = L[p] := by rw [List.getD_eq_getElem?_getD, List.getElem?_eq_getElem hp]; rfl
    rw [hg]
    refine ⟨fun x hx => ?_, ?_⟩
    · rcases List.mem_cons.1 hx with h | h
      · rw [h]; exact List.getElem_mem hp
      · exact List.mem_of_mem_eraseIdx (ih.1 x h)
    · rw [List.nodup_cons]
      refine ⟨fun h => ?_, ih.2⟩
      have h2 := ih.1 _ h
      rw [List.mem_eraseIdx_iff_getElem] at h2
      obtain ⟨k, hk, hne, e⟩ := h2
      exact hne ((List.getElem_inj hn).1 e)
theorem fst_table {xs : List ByteArray} {m : List Nat} (ht : tableB xs = true) (hl : m.length = xs.length) : tableB (fstL (srtX xs) m) = true := by
  obtain ⟨hz, hmk, hn⟩ := (tableB_iff xs).1 ht
  obtain ⟨h1, h2, h3⟩ := srtX_srt hn
  have h4 := fstL_mem (srtX xs) m (by omega) (srtB_times h1) (srtB_nodup h1)
  exact (tableB_iff _).2 ⟨by rw [fstL_len]; omega, fun x hx => hmk x ((h2 x).1 (h4.1 x hx)), h4.2⟩
/-- Is no order of a table better? -/
def ibV (xs : List ByteArray) (l : List Int) : Bool := fitB xs l && decide (cst (uAt (l.map Int.toNat)) (tAt xs) xs.length = bc (tL (srtX xs)) (l.map Int.toNat))



theorem srtX_next {xs : List ByteArray} {k : Nat} (h : k < xs.length) : srtX (xs.take (k + 1)) = insB (srtX (xs.take k)) xs[k] := by
  rw [List.take_add_one, List.getElem?_eq_getElem h]
  unfold srtX
  rw [List.foldl_append]; rfl
theorem srtX_take {xs : List ByteArray} (hn : xs.Nodup) (k : Nat) (hk : k ≤ xs.length) : (srtX (xs.take k)).length = k ∧ ∀ x ∈ srtX (xs.take k), x ∈ xs := by
  have h := srtX_srt (hn.sublist (List.take_sublist k xs))
  exact ⟨by rw [h.2.2, List.length_take]; omega, fun x hx => List.mem_of_mem_take ((h.2.1 x).1 hx)⟩

theorem bstL_mem : ∀ (L : List ByteArray) (us : List Nat), us.length ≤ L.length → ∀ x ∈ bstL L us, x ∈ L
  | L, [], _, x, hx => by simp [bstL] at hx
  | L, u :: us, hl, x, hx => by
    have hc : cAb u us < L.length := by have := cAb_le u us; simp only [List.length_cons] at hl; omega
    rw [bstL] at hx
    rcases List.mem_cons.1 hx with h | h
    · rw [h, List.getD_eq_getElem?_getD, List.getElem?_eq_getElem hc]; exact List.getElem_mem hc
    · exact List.mem_of_mem_eraseIdx (bstL_mem (L.eraseIdx (cAb u us)) us (by rw [erase_len _ _ hc]; simp only [List.length_cons] at hl; omega) x h)
end Go.Proofs.Ytdphjnbelggcfaa
