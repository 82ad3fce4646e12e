/-
  A row of nodes that the call owns; slices.Index and slices.Delete over it. Used by the claims on chapter 9.
-/
import Derived.Test.YtdphjnbelggcfaaCtW
import Derived.Test.YtdphjnbelggcfaaShd
import Derived.WalkMore
namespace Go.Proofs.Ytdphjnbelggcfaa
open Go.RowKit Go.Maps Go.WideMaps
set_option linter.unusedVariables false

/-- A row of nodes in a block of the call's own. -/
structure RowN (W : World) (B : Nat) (L : List Nat) : Prop where
  cell : ∀ (j v : Nat), L[j]? = some v → W.cell? ⟨B, j, none⟩ = some (.int .i64 (v : Int))
  opn : ∀ j, j < L.length → W.frozen? ⟨B, j, none⟩ = false
  lt : B < W.heap.size
theorem RowN.below {W W' : World} {B : Nat} {L : List Nat} (h : RowN W B L) (hb : Below W.heap.size W W') : RowN W' B L :=
  ⟨fun j v hv => (hb.cell (p := ⟨B, j, none⟩) h.lt).trans (h.cell j v hv), fun j hj => (hb.frozen (p := ⟨B, j, none⟩) h.lt).trans (h.opn j hj), Nat.lt_of_lt_of_le h.lt hb.size⟩
theorem rowN_of {w : World} {base g : Nat} {e : TypeId} {c : Nat} {L : List Nat} {n : Nat} (h : w.ownsRow base e 1 (.slice (some ⟨g, 0, none⟩) n c) n (ints L)) (hn : 0 < n) (hl : n = L.length) : RowN w g L ∧ base ≤ g ∧ n ≤ c ∧ c ≤ maxLen := by
  obtain ⟨g', c', e', hs, hb, hf, hc⟩ := seq_of_row2 h (by intro e; cases e)
  cases e'
  have hcell : ∀ (j v : Nat), L[j]? = some v → w.cell? ⟨g, j, none⟩ = some (.int .i64 (v : Int)) := fun j v hv => by
    obtain ⟨hj, rfl⟩ := List.getElem?_eq_some_iff.1 hv
    exact hs.2 j _ (ints_at hj)
  refine ⟨⟨hcell, fun j hj => hf j (by rw [ints_len]; exact hj), ?_⟩, hb, hc, ?_⟩
  · have := hcell 0 _ (List.getElem?_eq_getElem (by omega))
    exact World.block_lt_of_cell? _ _ this
  · rcases h.2 with ⟨h2, _⟩ | ⟨g2, cap, cur, h2, _, _, _, h6, _⟩
    · cases h2
    · cases h2; exact h6
theorem holds_rowN {W : World} {B : Nat} {L : List Nat} (h : RowN W B L) : Go.Sort.Holds (Value.int .i64) W B 0 (L.map fun n : Nat => (n : Int)).toArray := fun j hj => by
  have hj' : j < L.length := by simpa using hj
  rw [Nat.zero_add]
  refine ⟨?_, h.opn j hj'⟩
  rw [h.cell j _ (List.getElem?_eq_getElem hj'), getElem!_pos _ j hj]
  simp
theorem erase_lenN (L : List Nat) (k : Nat) (h : k < L.length) : (L.eraseIdx k).length = L.length - 1 := by rw [List.length_eraseIdx, if_pos h]
theorem rowN_erased {W : World} {B q k : Nat} {L : List Nat} (h : RowN W B L) (hk : k < L.length) :
    W.grownBy (Go.Sort.putRow (Value.int .i64) (Go.Sort.ahead W q) B 0 ((L.map fun n : Nat => (n : Int)).take k ++ (L.map fun n : Nat => (n : Int)).drop (k + 1) ++ List.replicate (k + 1 - k) 0).toArray) (some B) ∧
    RowN (Go.Sort.putRow (Value.int .i64) (Go.Sort.ahead W q) B 0 ((L.map fun n : Nat => (n : Int)).take k ++ (L.map fun n : Nat => (n : Int)).drop (k + 1) ++ List.replicate (k + 1 - k) 0).toArray) B (L.eraseIdx k) := by
  have hd : ((L.map fun n : Nat => (n : Int)).take k ++ (L.map fun n : Nat => (n : Int)).drop (k + 1) ++ List.replicate (k + 1 - k) 0) = (L.eraseIdx k).map (fun n : Nat => (n : Int)) ++ [0] := by
    rw [show k + 1 - k = 1 by omega, List.eraseIdx_eq_take_drop_succ]; simp
  rw [hd]
  have hlen : ((L.eraseIdx k).map (fun n : Nat => (n : Int)) ++ [0]).length = L.length := by
    rw [List.length_append, List.length_map, erase_lenN _ _ hk]; simp; omega
  have hH : Go.Sort.Holds (Value.int .i64) (Go.Sort.ahead W q) B 0 (L.map fun n : Nat => (n : Int)).toArray := fun j hj => holds_rowN h j hj
  refine ⟨⟨rfl, rfl, rfl, by simp [Go.Sort.ahead], fun i hi hne => ?_⟩, fun i v hv => ?_, fun i hi => ?_, by simp [Go.Sort.ahead]; exact h.lt⟩
  · have : B ≠ i := fun e => hne (by rw [e])
    simp [Go.Sort.putRow, Go.Sort.mapBlock, Go.Sort.ahead, Array.getElem?_modify, this]
  · obtain ⟨hi, rfl⟩ := List.getElem?_eq_some_iff.1 hv
    have hi' : i < L.length := by rw [erase_lenN _ _ hk] at hi; omega
    have hc := Go.Sort.cell?_putRow (Value.int .i64) (Go.Sort.ahead W q) B 0 (L.map fun n : Nat => (n : Int)).toArray ((L.eraseIdx k).map (fun n : Nat => (n : Int)) ++ [0]).toArray hH (by simpa using hlen) i (by simp at hlen ⊢; omega)
    rw [Nat.zero_add] at hc
    rw [hc, getElem!_pos _ i (by simp at hlen ⊢; omega)]
    simp only [List.getElem_toArray]
    rw [List.getElem_append_left (by simpa using hi)]
    simp
  · rw [Go.Sort.frozen?_putRow]
    exact h.opn i (by rw [erase_lenN _ _ hk] at hi; omega)
theorem deleteN_any (B n cap p : Nat) (L : List Nat) (W : World) (hr : RowN W B L) (hn : n = L.length) (hp : p < n) (hc : n ≤ cap) (hm : cap ≤ maxLen) :
    Calls Try.prog 106 #[.slice (some ⟨B, 0, none⟩) n cap, .int .i64 (p : Int), .int .i64 ((p : Int) + 1)] W fun e w' => e = .returned (.slice (some ⟨B, 0, none⟩) (n - 1) cap) ∧ W.grownBy w' (some B) ∧ RowN w' B (L.eraseIdx p) := by
  subst hn
  have h := AnyG.slices_Delete_int Try.delN B 0 cap p (p + 1) (L.map fun n : Nat => (n : Int)) W (holds_rowN hr) (by rw [List.length_map]; exact hc) (by unfold maxLen at hm; omega) (by omega) (by rw [List.length_map]; omega)
  rw [List.length_map, show p + 1 - p = 1 by omega] at h
  refine Calls.mono h ?_
  rintro e w' ⟨rfl, q, rfl⟩
  have h2 := rowN_erased (q := q) hr hp
  rw [show p + 1 - p = 1 by omega] at h2
  exact ⟨rfl, h2⟩
theorem indexN_any (B : Nat) (L : List Nat) (n c : Nat) (v p : Nat) (w : World) (hr : RowN w B L) (hp : L[p]? = some v) (hlow : ∀ j, j < p → L[j]? ≠ some v) (hn : n = L.length) (hl : n ≤ 1000) :
    Calls Try.prog 105 #[.slice (some ⟨B, 0, none⟩) n c, .int .i64 (v : Int)] w fun e w' => e = .returned (.int .i64 (p : Int)) ∧ w' = w := by
  have HR := Lib.hid hr
  have HP := Lib.hid hp
  have HL := Lib.hid hlow
  have hpl : p < n := by rw [hn]; exact (List.getElem?_eq_some_iff.1 hp).1
  have HN := Lib.hid hn
  clear hr hp hlow hn
  go_enter Try.func105, Try.ntmps105
  go_wp2
  go_loopw [8] (fun v wr => ∃ k : Nat, v = .int .i64 (k : Int) ∧ k ≤ p ∧ wr = w) (fun v _ => n - (intOf v).toNat)
  case atStart => exact ⟨0, rfl, Nat.zero_le _, rfl⟩
  case round =>
    obtain ⟨k, rfl, hk, hwr⟩ := hrel
    subst hwr
    have hkn : k < L.length := by rw [← HN.out]; omega
    have hx := List.getElem?_eq_getElem hkn
    have d1 := HR.out.cell k _ hx
    have i0 : (0 : Int) ≤ (k : Int) := by omega
    have i1 : (k : Int) < (n : Int) := by omega
    by_cases e : k = p
    · subst e
      have hv : L[k] = v := by have := HP.out; rw [hx] at this; exact Option.some.inj this
      rw [hv] at d1
      have e1 : ((v : Int) == (v : Int)) = true := by simp
      clear hx hv
      go_wp2
      go_ret
      exact ⟨rfl, rfl⟩
    · have hv : L[k] ≠ v := fun e2 => HL.out k (by omega) (by rw [hx, e2])
      have hxm : ((v : Int) == (L[k] : Int)) = false := beq_false_of_ne (fun e2 => hv (by omega))
      generalize L[k] = x at *
      clear hx hv
      go_wp2
      go_roundw
      case rel => exact ⟨k + 1, by go_num, by omega, by trivial⟩
      case measure => simp [intOf]; omega
end Go.Proofs.Ytdphjnbelggcfaa
