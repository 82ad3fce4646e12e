/-
  Plain: the nodes that are left, the place of a node among them, the rank of a list of nodes in two ways. No program. Used by the claims on chapter 9.
-/
import Derived.Test.YtdphjnbelggcfaaNodL
namespace Go.Proofs.Ytdphjnbelggcfaa

def uptoN (k : Nat) : List Nat := (List.range k).map (· + 2)
theorem uptoN_len (k : Nat) : (uptoN k).length = k := by simp [uptoN]
theorem uptoN_mem {k v : Nat} : v ∈ uptoN k ↔ 2 ≤ v ∧ v < k + 2 := by
  unfold uptoN
  rw [List.mem_map]
  constructor
  · rintro ⟨a, h, rfl⟩; rw [List.mem_range] at h; omega
  · intro h; exact ⟨v - 2, List.mem_range.2 (by omega), by omega⟩
theorem uptoN_succ (k : Nat) : uptoN (k + 1) = uptoN k ++ [k + 2] := by simp [uptoN, List.range_succ]
/-- The nodes around a node. -/
theorem uptoN_split (L v : Nat) (h : 2 ≤ v) (hv : v < L + 2) : ∃ r, uptoN L = uptoN (v - 2) ++ v :: r ∧ ∀ x ∈ r, v < x := by
  induction L with
  | zero => omega
  | succ L ih =>
    rw [uptoN_succ]
    by_cases e : v = L + 2
    · refine ⟨[], ?_, by simp⟩
      rw [show v - 2 = L by omega, e]
    · obtain ⟨r, h1, h2⟩ := ih (by omega)
      refine ⟨r ++ [L + 2], by rw [h1]; simp, fun x hx => ?_⟩
      rw [List.mem_append, List.mem_singleton] at hx
      rcases hx with hx | rfl
      · exact h2 x hx
      · omega
def freeB (us : List Nat) (x : Nat) : Bool := !us.contains x
/-- The nodes that are left. -/
def leftL (L : Nat) (us : List Nat) : List Nat := (uptoN L).filter (freeB us)
/-- The place of a node among them. -/
def plc (us : List Nat) (v : Nat) : Nat := ((uptoN (v - 2)).filter (freeB us)).length
theorem freeB_iff {us : List Nat} {x : Nat} : freeB us x = true ↔ x ∉ us := by unfold freeB; simp
theorem freeB_snoc {us : List Nat} {x v : Nat} (h : x ≠ v) : freeB (us ++ [v]) x = freeB us x := by
  unfold freeB; rw [Bool.eq_iff_iff]; simp [h]
theorem leftL_split {L v : Nat} {us : List Nat} (h : 2 ≤ v) (hv : v < L + 2) (hu : v ∉ us) : ∃ a r, leftL L us = a ++ v :: r ∧ leftL L (us ++ [v]) = a ++ r ∧ a.length = plc us v ∧ v ∉ a := by
  obtain ⟨r, h1, h2⟩ := uptoN_split L v h hv
  have ha : (uptoN (v - 2)).filter (freeB (us ++ [v])) = (uptoN (v - 2)).filter (freeB us) := List.filter_congr fun x hx => freeB_snoc (by have := (uptoN_mem.1 hx).2; omega)
  have hr : r.filter (freeB (us ++ [v])) = r.filter (freeB us) := List.filter_congr fun x hx => freeB_snoc (by have := h2 x hx; omega)
  refine ⟨(uptoN (v - 2)).filter (freeB us), r.filter (freeB us), ?_, ?_, rfl, ?_⟩
  · unfold leftL
    rw [h1, List.filter_append, List.filter_cons, if_pos (freeB_iff.2 hu)]
  · unfold leftL
    rw [h1, List.filter_append, List.filter_cons, if_neg (by rw [freeB_iff]; simp), ha, hr]
  · intro hm
    have := (uptoN_mem.1 (List.mem_filter.1 hm).1).2
    omega
theorem left_place {L v : Nat} {us : List Nat} (h : 2 ≤ v) (hv : v < L + 2) (hu : v ∉ us) : (leftL L us)[plc us v]? = some v ∧ (∀ j, j < plc us v → (leftL L us)[j]? ≠ some v) ∧ (leftL L us).eraseIdx (plc us v) = leftL L (us ++ [v]) ∧ plc us v < (leftL L us).length ∧ (leftL L (us ++ [v])).length + 1 = (leftL L us).length := by
  obtain ⟨a, r, e1, e2, e3, e4⟩ := leftL_split h hv hu
  rw [e1, e2, ← e3]
  refine ⟨by simp, fun j hj he => ?_, ?_, by simp, by simp; omega⟩
  · rw [List.getElem?_append_left hj] at he
    exact e4 (List.mem_of_getElem? he)
  · rw [List.eraseIdx_append_of_length_le (Nat.le_refl _), Nat.sub_self]; rfl
theorem left_nil (L : Nat) : leftL L [] = uptoN L := by
  unfold leftL
  exact List.filter_eq_self.2 fun x _ => by rw [freeB_iff]; simp
theorem left_len {L : Nat} : ∀ (vs us : List Nat), (us ++ vs).Nodup → (∀ v ∈ vs, 2 ≤ v ∧ v < L + 2) → (leftL L us).length = (leftL L (us ++ vs)).length + vs.length
  | [], us, _, _ => by simp
  | v :: vs, us, hn, hm => by
    have hv := hm v (List.mem_cons_self ..)
    have hu : v ∉ us := fun h => by
      have := List.nodup_append.1 hn
      exact this.2.2 v h v (List.mem_cons_self ..) rfl
    have e : us ++ v :: vs = (us ++ [v]) ++ vs := by simp
    have h1 := (left_place hv.1 hv.2 hu).2.2.2.2
    have h2 := left_len vs (us ++ [v]) (by rw [← e]; exact hn) (fun x hx => hm x (List.mem_cons_of_mem _ hx))
    rw [e, List.length_cons]
    omega
/-- Of so many nodes as are left. -/
theorem left_count {L : Nat} {vs : List Nat} (hn : vs.Nodup) (hm : ∀ v ∈ vs, 2 ≤ v ∧ v < L + 2) : (leftL L vs).length + vs.length = L := by
  have := left_len (L := L) vs [] (by simpa using hn) hm
  rw [left_nil, uptoN_len, List.nil_append] at this
  exact this.symm

/-! ### Ranks -/
def rkS (L : Nat) (s : Nat × List Nat) (v : Nat) : Nat × List Nat := (s.1 * (L - s.2.length) + plc s.2 v, s.2 ++ [v])
def rkN (L : Nat) (vs : List Nat) : Nat := (vs.foldl (rkS L) (0, [])).1
theorem rk_used (L : Nat) (vs : List Nat) : (vs.foldl (rkS L) (0, [])).2 = vs := by
  have : ∀ (vs : List Nat) (s : Nat × List Nat), (vs.foldl (rkS L) s).2 = s.2 ++ vs := by
    intro vs
    induction vs with
    | nil => intro s; simp
    | cons v vs ih => intro s; rw [List.foldl_cons, ih]; simp [rkS]
  rw [this]; simp
theorem rk_snoc (L : Nat) (vs : List Nat) (v : Nat) : rkN L (vs ++ [v]) = rkN L vs * (L - vs.length) + plc vs v := by
  unfold rkN
  rw [List.foldl_append, List.foldl_cons, List.foldl_nil]
  have h := rk_used L vs
  generalize vs.foldl (rkS L) (0, []) = s at h ⊢
  obtain ⟨r, u⟩ := s
  simp only at h
  subst h
  rfl
theorem manyN_mul (a : Nat) : ∀ b l, manyN a l * manyN b (l - a) = manyN (a + b) l := by
  induction a with
  | zero => intro b l; simp [manyN]
  | succ a ih =>
    intro b l
    rw [show a + 1 + b = (a + b) + 1 by omega, manyN, manyN, Nat.mul_assoc, show l - (a + 1) = l - 1 - a by omega, ih]
/-- Ranks are below the number of Tables. -/
theorem rk_lt {L : Nat} {vs : List Nat} (hn : vs.Nodup) (hm : ∀ v ∈ vs, 2 ≤ v ∧ v < L + 2) : rkN L vs < manyN vs.length L := by
  have : ∀ k, k ≤ vs.length → rkN L (vs.take k) < manyN k L := by
    intro k
    induction k with
    | zero => intro _; simp [rkN, manyN]
    | succ k ih =>
      intro hk
      have hx := List.getElem?_eq_getElem (l := vs) (i := k) (by omega)
      have ht : vs.take (k + 1) = vs.take k ++ [vs[k]] := by rw [List.take_add_one, hx]; rfl
      have hnk : (vs.take k ++ [vs[k]]).Nodup := by rw [← ht]; exact hn.sublist (List.take_sublist _ _)
      have hu : vs[k] ∉ vs.take k := fun h => (List.nodup_append.1 hnk).2.2 _ h _ (List.mem_singleton.2 rfl) rfl
      have hv := hm _ (List.getElem_mem (l := vs) (n := k) (by omega))
      have hp := (left_place hv.1 hv.2 hu).2.2.2.1
      have hc := left_count (L := L) (vs := vs.take k) (hn.sublist (List.take_sublist _ _)) (fun v h => hm v (List.mem_of_mem_take h))
      have hl : (vs.take k).length = k := by rw [List.length_take]; omega
      rw [ht, rk_snoc, manyN_snoc, hl]
      rw [hl] at hc
      have h1 := ih (by omega)
      have h2 : plc (vs.take k) vs[k] < L - k := by omega
      calc rkN L (vs.take k) * (L - k) + plc (vs.take k) vs[k] < rkN L (vs.take k) * (L - k) + (L - k) := by omega
        _ = (rkN L (vs.take k) + 1) * (L - k) := by rw [Nat.add_mul, Nat.one_mul]
        _ ≤ manyN k L * (L - k) := Nat.mul_le_mul h1 (Nat.le_refl _)
  have h := this vs.length (Nat.le_refl _)
  rwa [List.take_length] at h
/-- The model's sum is the program's number, with the factors that are still to come. -/
theorem rk_step {L n k r p : Nat} (hk : k < n) : (r * (L - k) + p) * manyN (n - (k + 1)) (L - (k + 1)) = r * manyN (n - k) (L - k) + p * manyN (n - 1 - k) (L - 1 - k) := by
  have e : manyN (n - k) (L - k) = (L - k) * manyN (n - 1 - k) (L - 1 - k) := by
    rw [show n - k = (n - 1 - k) + 1 by omega, manyN, show L - k - 1 = L - 1 - k by omega]
  rw [e, show n - (k + 1) = n - 1 - k by omega, show L - (k + 1) = L - 1 - k by omega, Nat.add_mul, Nat.mul_assoc]
end Go.Proofs.Ytdphjnbelggcfaa
