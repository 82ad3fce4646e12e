/-
  Slices of numbers and of pairs in memory: what their cells hold, how a function ends that answers with one. Used by the claims on chapters 3 and on.
-/
import Derived.Test.YthkafalpjokfeaaGrow0
namespace Go.Proofs.Ythkafalpjokfeaa
open Go.RowKit
set_option linter.unusedVariables false

/-- What a slice in memory is told by: its cells from the beginning of a block. -/
def SrcV (w : World) (a : Option Addr) (g : Nat) (vs : List Value) : Prop := (0 < vs.length → a = some ⟨g, 0, none⟩) ∧ ∀ (j : Nat) v, vs[j]? = some v → w.cell? ⟨g, j, none⟩ = some v
theorem SrcV.below {w w' : World} {a : Option Addr} {g : Nat} {vs : List Value} (h : SrcV w a g vs) (hb : Below w.heap.size w w') : SrcV w' a g vs :=
  ⟨h.1, fun j v hv => (hb.cell (World.block_lt_of_cell? _ _ (h.2 j v hv))).trans (h.2 j v hv)⟩
theorem SrcV.alloc {w : World} {a : Option Addr} {g : Nat} {vs : List Value} (h : SrcV w a g vs) (o : Obj) : SrcV (w.alloc o) a g vs := h.below (below_alloc w o)
theorem srcV_lt {w : World} {a : Option Addr} {g : Nat} {vs : List Value} (h : SrcV w a g vs) (h0 : 0 < vs.length) : g < w.heap.size :=
  World.block_lt_of_cell? w ⟨g, 0, none⟩ (h.2 0 _ (List.getElem?_eq_getElem h0))
theorem SrcV.grown {w w' : World} {a : Option Addr} {g q : Nat} {vs : List Value} (h : SrcV w a g vs) (hg : w.grownBy w' (some q)) (hne : 0 < vs.length → g ≠ q) : SrcV w' a g vs :=
  ⟨h.1, fun j v hv => (World.cell?_of_block (w := w) (a := ⟨g, j, none⟩) (hg.block g (World.block_lt_of_cell? _ _ (h.2 j v hv)) (fun e => hne (Nat.lt_of_le_of_lt (Nat.zero_le _) (List.getElem?_eq_some_iff.1 hv).1) (by injection e)))).trans (h.2 j v hv)⟩
/-- How a function ends that answers with a slice of n elements and a bool: one of its own, or none. -/
def SeqOut (vs : List Value) (n : Nat) (ok : Bool) (W : World) (e : Ending) (W' : World) : Prop :=
  ∃ a g c, e = .returned (.tuple #[.slice a n c, .bool ok]) ∧ SrcV W' a g vs ∧ (0 < vs.length → W.heap.size ≤ g) ∧ (∀ j, j < vs.length → W'.frozen? ⟨g, j, none⟩ = false) ∧ Below W.heap.size W W'
theorem seqOut_none {W W' : World} (hb : Below W.heap.size W W') : SeqOut [] 0 false W (.returned (.tuple #[.slice none 0 0, .bool false])) W' :=
  ⟨none, W.heap.size, 0, rfl, ⟨fun h => by simp at h, fun j x hx => by simp at hx⟩, fun h => by simp at h, fun j hj => by simp at hj, hb⟩
/-- A row that a walk built by append ends so. -/
theorem seq_of_row {W : World} {base : Nat} {e : TypeId} {size : Nat} {v : Value} {n : Nat} {vs : List Value} (h : W.ownsRow base e size v n vs) : ∃ a g c, v = .slice a n c ∧ SrcV W a g vs ∧ (0 < vs.length → base ≤ g) ∧ (∀ j, j < vs.length → W.frozen? ⟨g, j, none⟩ = false) := by
  have h' := h
  obtain ⟨h1, h2⟩ := h
  rcases h2 with ⟨rfl, rfl⟩ | ⟨g, cap, cur, rfl, hg, hh, hcap, hm, hsz, htk⟩
  · have hv : vs = [] := List.length_eq_zero_iff.1 (by simpa using h1)
    subst hv
    exact ⟨none, 0, 0, rfl, ⟨fun h => by simp at h, fun j x hx => by simp at hx⟩, fun h => by simp at h, fun j hj => by simp at hj⟩
  · refine ⟨_, g, cap, rfl, ⟨fun _ => rfl, fun j u hu => ?_⟩, fun _ => hg, fun j hj => ?_⟩
    · have := h'.cells (g := g) rfl j u hu
      rw [Addr.add_lit, Nat.zero_add] at this
      exact this
    · unfold World.frozen?
      rw [hh]
      simp
theorem seq_of_row2 {W : World} {base : Nat} {e : TypeId} {size : Nat} {v : Value} {n : Nat} {vs : List Value} (h : W.ownsRow base e size v n vs) (hn : v ≠ .slice none 0 0) : ∃ g c, v = .slice (some ⟨g, 0, none⟩) n c ∧ SrcV W (some ⟨g, 0, none⟩) g vs ∧ base ≤ g ∧ (∀ j, j < vs.length → W.frozen? ⟨g, j, none⟩ = false) ∧ n ≤ c := by
  have h' := h
  obtain ⟨h1, h2⟩ := h
  rcases h2 with ⟨rfl, rfl⟩ | ⟨g, cap, cur, rfl, hg, hh, hcap, hm, hsz, htk⟩
  · exact absurd rfl hn
  · refine ⟨g, cap, rfl, ⟨fun _ => rfl, fun j u hu => ?_⟩, hg, fun j hj => ?_, hcap⟩
    · have := h'.cells (g := g) rfl j u hu
      rw [Addr.add_lit, Nat.zero_add] at this
      exact this
    · unfold World.frozen?
      rw [hh]
      simp
theorem row_cap {W : World} {base : Nat} {e : TypeId} {size : Nat} {n : Nat} {a : Option Addr} {c : Nat} {vs : List Value} (h : W.ownsRow base e size (.slice a n c) n vs) : n ≤ c := by
  rcases h.2 with ⟨h1, h2⟩ | ⟨g, cap, cur, h1, _, _, hc, _⟩
  · omega
  · injection h1 with _ _ h3
    omega
def ints (l : List Nat) : List Value := l.map fun n : Nat => Value.int .i64 (n : Int)
theorem ints_len (l : List Nat) : (ints l).length = l.length := by simp [ints]
theorem ints_at {l : List Nat} {k : Nat} (h : k < l.length) : (ints l)[k]? = some (.int .i64 (l[k] : Int)) := by simp [ints, h]
theorem ints_snoc (l : List Nat) (n : Nat) : ints (l ++ [n]) = ints l ++ [.int .i64 (n : Int)] := by simp [ints]
def prs (l : List (Nat × Nat)) : List Value := l.flatMap fun p => [.int .i64 (p.1 : Int), .int .i64 (p.2 : Int)]
theorem prs_snoc (l : List (Nat × Nat)) (i j : Nat) : prs (l ++ [(i, j)]) = prs l ++ [.int .i64 (i : Int), .int .i64 (j : Int)] := by simp [prs]
theorem prs_len (l : List (Nat × Nat)) : (prs l).length = 2 * l.length := by
  induction l with
  | nil => rfl
  | cons p r ih => simp only [prs, List.flatMap_cons, List.length_append, List.length_cons, List.length_nil] at ih ⊢; omega
theorem prs_at {l : List (Nat × Nat)} {k : Nat} (h : k < l.length) : (prs l)[2 * k]? = some (.int .i64 (l[k].1 : Int)) ∧ (prs l)[2 * k + 1]? = some (.int .i64 (l[k].2 : Int)) := by
  induction l generalizing k with
  | nil => simp at h
  | cons p r ih =>
    cases k with
    | zero => exact ⟨rfl, rfl⟩
    | succ k =>
      have := ih (k := k) (by simpa using h)
      have e1 : 2 * (k + 1) = 2 * k + 1 + 1 := by omega
      have e2 : 2 * (k + 1) + 1 = 2 * k + 1 + 1 + 1 := by omega
      rw [e2, e1]
      exact this
theorem prs_cut (l : List (Nat × Nat)) (f t : Nat) : prs ((l.take t).drop f) = ((prs l).take (t * 2)).drop (f * 2) := by
  induction l generalizing f t with
  | nil => simp [prs]
  | cons p r ih =>
    cases t with
    | zero => simp [prs]
    | succ t =>
      have e1 : (t + 1) * 2 = t * 2 + 1 + 1 := by omega
      cases f with
      | zero =>
        have := ih 0 t
        simp only [List.drop_zero, Nat.zero_mul] at this
        rw [Nat.zero_mul, List.drop_zero, List.drop_zero, List.take_succ_cons, e1]
        show [Value.int .i64 (p.1 : Int), .int .i64 (p.2 : Int)] ++ prs (r.take t) = _
        rw [this]; rfl
      | succ f =>
        have e2 : (f + 1) * 2 = f * 2 + 1 + 1 := by omega
        rw [List.take_succ_cons, List.drop_succ_cons, ih f t, e1, e2]; rfl
theorem srcV_cut {w : World} {a : Option Addr} {g : Nat} {l : List (Nat × Nat)} (h : SrcV w a g (prs l)) (f t : Nat) : ∀ (j : Nat) u, (prs ((l.take t).drop f))[j]? = some u → w.cell? ((⟨g, f * 2, none⟩ : Addr).add j) = some u := fun j u hu => by
  rw [Addr.add_lit]
  rw [prs_cut, List.getElem?_drop] at hu
  by_cases hlt : f * 2 + j < t * 2
  · rw [List.getElem?_take_of_lt hlt] at hu
    exact h.2 _ _ hu
  · rw [List.getElem?_eq_none (by rw [List.length_take]; omega)] at hu
    cases hu
theorem infoPair : (Try.prog.info? 43).map (fun i => (i.zero, i.size, i.bytes)) = some (some (.agg #[.int .i64 0, .int .i64 0]), 2, 16) := by kernel_rfl
theorem cell_two_new (w : World) (x y : Value) (t : TypeId) : ∀ (j : Nat) u, [x, y][j]? = some u → (w.alloc (.cells #[x, y] t)).cell? ((⟨w.heap.size, 0, none⟩ : Addr).add j) = some u := fun j u h => by
  rw [Addr.add_lit, World.cell?_alloc_new]
  match j, h with
  | 0, h => simpa using h
  | 1, h => simpa using h
  | j + 2, h => simp at h
end Go.Proofs.Ythkafalpjokfeaa
