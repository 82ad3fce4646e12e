/-
  Plain facts on jobs and hops: their cells, when two clash, the least begin without a clash. No program. Used by the claims on chapter 10.
-/
import Derived.Test.YtiialbnfgichhaaSeqV
namespace Go.Proofs.Ytiialbnfgichhaa
set_option linter.unusedVariables false

structure Jb where
  fr : Int
  to : Int
  sp : Int
  st : Int
structure Hp where
  jb : Int
  fr : Int
  bg : Int
instance : Inhabited Jb := ⟨⟨0, 0, 0, 0⟩⟩
instance : Inhabited Hp := ⟨⟨0, 0, 0⟩⟩
def jcs (j : Jb) : List Value := [.int .i64 j.fr, .int .i64 j.to, .int .i64 j.sp, .int .i64 j.st]
def hcs (h : Hp) : List Value := [.int .i64 h.jb, .int .i64 h.fr, .int .i64 h.bg]
def jbs (l : List Jb) : List Value := l.flatMap jcs
def hps (l : List Hp) : List Value := l.flatMap hcs
theorem jbs_snoc (l : List Jb) (j : Jb) : jbs (l ++ [j]) = jbs l ++ jcs j := by simp [jbs]
theorem hps_snoc (l : List Hp) (j : Hp) : hps (l ++ [j]) = hps l ++ hcs j := by simp [hps]
theorem hps_append (l m : List Hp) : hps (l ++ m) = hps l ++ hps m := by simp [hps]
theorem jbs_len (l : List Jb) : (jbs l).length = 4 * l.length := by
  induction l with
  | nil => rfl
  | cons p r ih => simp only [jbs, jcs, List.flatMap_cons, List.length_append, List.length_cons, List.length_nil] at ih ⊢; omega
theorem hps_len (l : List Hp) : (hps l).length = 3 * l.length := by
  induction l with
  | nil => rfl
  | cons p r ih => simp only [hps, hcs, List.flatMap_cons, List.length_append, List.length_cons, List.length_nil] at ih ⊢; omega
theorem jbs_at {l : List Jb} {k : Nat} (h : k < l.length) : (jbs l)[k * 4]? = some (.int .i64 l[k].fr) ∧ (jbs l)[k * 4 + 1]? = some (.int .i64 l[k].to) ∧ (jbs l)[k * 4 + 2]? = some (.int .i64 l[k].sp) ∧ (jbs l)[k * 4 + 3]? = some (.int .i64 l[k].st) := by
  induction l generalizing k with
  | nil => simp at h
  | cons p r ih =>
    cases k with
    | zero => exact ⟨rfl, rfl, rfl, rfl⟩
    | succ k =>
      have := ih (k := k) (by simpa using h)
      have e1 : (k + 1) * 4 = k * 4 + 1 + 1 + 1 + 1 := by omega
      have e2 : (k + 1) * 4 + 1 = k * 4 + 1 + 1 + 1 + 1 + 1 := by omega
      have e3 : (k + 1) * 4 + 2 = k * 4 + 2 + 1 + 1 + 1 + 1 := by omega
      have e4 : (k + 1) * 4 + 3 = k * 4 + 3 + 1 + 1 + 1 + 1 := by omega
      rw [e4, e3, e2, e1]
      exact this
theorem hps_at {l : List Hp} {k : Nat} (h : k < l.length) : (hps l)[k * 3]? = some (.int .i64 l[k].jb) ∧ (hps l)[k * 3 + 1]? = some (.int .i64 l[k].fr) ∧ (hps l)[k * 3 + 2]? = some (.int .i64 l[k].bg) := by
  induction l generalizing k with
  | nil => simp at h
  | cons p r ih =>
    cases k with
    | zero => exact ⟨rfl, rfl, rfl⟩
    | succ k =>
      have := ih (k := k) (by simpa using h)
      have e1 : (k + 1) * 3 = k * 3 + 1 + 1 + 1 := by omega
      have e2 : (k + 1) * 3 + 1 = k * 3 + 1 + 1 + 1 + 1 := by omega
      have e3 : (k + 1) * 3 + 2 = k * 3 + 2 + 1 + 1 + 1 := by omega
      rw [e3, e2, e1]
      exact this
def In64 (x : Int) : Prop := -9223372036854775808 ≤ x ∧ x ≤ 9223372036854775807
structure JbIn (j : Jb) : Prop where
  fr : In64 j.fr
  to : In64 j.to
  sp : In64 j.sp
  st : In64 j.st
structure HpIn (h : Hp) : Prop where
  jb : In64 h.jb
  fr : In64 h.fr
  bg : In64 h.bg
def rowOk (n : Int) : Bool := decide (2 ≤ n) && decide (n ≤ 6)
def jobOk (n : Int) (j : Jb) : Bool := (decide (0 ≤ j.fr) && decide (j.fr < n)) && ((decide (0 ≤ j.to) && decide (j.to < n)) && (!decide (j.fr = j.to) && ((decide (1 ≤ j.sp) && decide (j.sp ≤ 60)) && (decide (0 ≤ j.st) && decide (j.st ≤ 999)))))
structure JobV (n : Int) (j : Jb) : Prop where
  fr0 : 0 ≤ j.fr
  fr1 : j.fr < n
  to0 : 0 ≤ j.to
  to1 : j.to < n
  ne : j.fr ≠ j.to
  sp0 : 1 ≤ j.sp
  sp1 : j.sp ≤ 60
  st0 : 0 ≤ j.st
  st1 : j.st ≤ 999
theorem jobOk_iff {n : Int} {j : Jb} : jobOk n j = true ↔ JobV n j := by
  unfold jobOk
  simp only [Bool.and_eq_true, decide_eq_true_eq, Bool.not_eq_true', decide_eq_false_iff_not]
  exact ⟨fun ⟨⟨a, b⟩, ⟨c, d⟩, e, ⟨f, g⟩, h, i⟩ => ⟨a, b, c, d, e, f, g, h, i⟩, fun ⟨a, b, c, d, e, f, g, h, i⟩ => ⟨⟨a, b⟩, ⟨c, d⟩, e, ⟨f, g⟩, h, i⟩⟩
theorem rowOk_iff {n : Int} : rowOk n = true ↔ 2 ≤ n ∧ n ≤ 6 := by simp [rowOk]
def goodJ (n : Int) (l : List Jb) : Bool := rowOk n && (decide (l.length ≤ 5) && l.all (jobOk n))
structure JobsV (n : Int) (l : List Jb) : Prop where
  n0 : 2 ≤ n
  n1 : n ≤ 6
  len : l.length ≤ 5
  all : ∀ j ∈ l, JobV n j
theorem goodJ_iff {n : Int} {l : List Jb} : goodJ n l = true ↔ JobsV n l := by
  unfold goodJ
  simp only [Bool.and_eq_true, decide_eq_true_eq, rowOk_iff, List.all_eq_true, jobOk_iff]
  exact ⟨fun ⟨⟨a, b⟩, c, d⟩ => ⟨a, b, c, d⟩, fun ⟨a, b, c, d⟩ => ⟨⟨a, b⟩, c, d⟩⟩
def stp (j : Jb) : Int := if j.fr < j.to then j.to - j.fr else j.fr - j.to
def way (j : Jb) : Int := if j.fr < j.to then 1 else -1
def cmpI (a b : Int) : Int := if a < b then -1 else if b < a then 1 else 0
def jAt (l : List Jb) (i : Int) : Jb := l.getD i.toNat ⟨0, 0, 0, 0⟩
theorem jAt_nat {l : List Jb} {k : Nat} (h : k < l.length) : jAt l (k : Int) = l[k] := by
  unfold jAt
  rw [Int.toNat_natCast, List.getD_eq_getElem?_getD, List.getElem?_eq_getElem h]; rfl
theorem jAt_mem {l : List Jb} {i : Int} (h0 : 0 ≤ i) (h1 : i < l.length) : jAt l i ∈ l := by
  obtain ⟨k, rfl⟩ : ∃ k : Nat, i = (k : Int) := ⟨i.toNat, by omega⟩
  have hk : k < l.length := by omega
  rw [jAt_nat hk]; exact List.getElem_mem hk
def nx (l : List Jb) (h : Hp) : Int := h.fr + cmpI (jAt l h.jb).to h.fr
def en (l : List Jb) (h : Hp) : Int := h.bg + (jAt l h.jb).sp
def meet (l : List Jb) (a b : Hp) : Bool := decide (a.fr = b.fr) || (decide (a.fr = nx l b) || (decide (nx l a = b.fr) || decide (nx l a = nx l b)))
theorem meet_comm (l : List Jb) (a b : Hp) : meet l a b = meet l b a := by
  unfold meet
  rw [Bool.eq_iff_iff]
  simp only [Bool.or_eq_true, decide_eq_true_eq]
  constructor
  · rintro (h | h | h | h)
    · exact Or.inl h.symm
    · exact Or.inr (Or.inr (Or.inl h.symm))
    · exact Or.inr (Or.inl h.symm)
    · exact Or.inr (Or.inr (Or.inr h.symm))
  · rintro (h | h | h | h)
    · exact Or.inl h.symm
    · exact Or.inr (Or.inr (Or.inl h.symm))
    · exact Or.inr (Or.inl h.symm)
    · exact Or.inr (Or.inr (Or.inr h.symm))
def clash (l : List Jb) (h o : Hp) : Bool := meet l h o && (decide (h.bg < en l o) && decide (o.bg < en l h))
theorem clash_comm (l : List Jb) (a b : Hp) : clash l a b = clash l b a := by
  unfold clash; rw [meet_comm l a b, Bool.and_comm (decide (a.bg < en l b))]
def moved (h : Hp) (t : Int) : Hp := ⟨h.jb, h.fr, t⟩
theorem nx_moved (l : List Jb) (h : Hp) (t : Int) : nx l (moved h t) = nx l h := rfl
/-- A begin at which a hop meets none of those that are placed. -/
def freeAt (l : List Jb) (ps : List Hp) (h : Hp) (t : Int) : Bool := !ps.any (clash l (moved h t))
def seek (f : Int → Bool) : Nat → Int → Int
  | 0, t => t
  | k + 1, t => if f t = true then t else seek f k (t + 1)
theorem seek_at (f : Int → Bool) (b : Int) (hf : f b = true) : ∀ (k : Nat) (t : Int), t ≤ b → b ≤ t + k → (∀ u, t ≤ u → u < b → f u = false) → seek f k t = b := by
  intro k
  induction k with
  | zero => intro t h1 h2 _; simp only [seek]; omega
  | succ k ih =>
    intro t h1 h2 h3
    simp only [seek]
    by_cases e : t = b
    · subst e; rw [if_pos hf]
    · rw [if_neg (by rw [h3 t (Int.le_refl _) (by omega)]; simp)]
      exact ih (t + 1) (by omega) (by omega) (fun u hu1 hu2 => h3 u (by omega) hu2)
def far : Nat := 100000
/-- The least begin, from that of the hop on, at which it meets none. -/
def lf (l : List Jb) (ps : List Hp) (h : Hp) : Int := seek (freeAt l ps h) far h.bg
/-- What a search for the least begin keeps: all begins before are taken. -/
structure Upto (l : List Jb) (ps : List Hp) (h : Hp) (b : Int) : Prop where
  le : h.bg ≤ b
  no : ∀ u, h.bg ≤ u → u < b → freeAt l ps h u = false
theorem Upto.start (l : List Jb) (ps : List Hp) (h : Hp) : Upto l ps h h.bg := ⟨Int.le_refl _, fun u h1 h2 => by omega⟩
theorem Upto.step {l : List Jb} {ps : List Hp} {h o : Hp} {b : Int} (hu : Upto l ps h b) (ho : o ∈ ps) (hc : clash l (moved h b) o = true) : Upto l ps h (en l o) ∧ b < en l o := by
  unfold clash at hc
  simp only [Bool.and_eq_true, decide_eq_true_eq] at hc
  obtain ⟨hm, h1, h2⟩ := hc
  have hb : (moved h b).bg = b := rfl
  rw [hb] at h1
  refine ⟨⟨Int.le_trans hu.le (Int.le_of_lt h1), fun u hu1 hu2 => ?_⟩, h1⟩
  by_cases e : u < b
  · exact hu.no u hu1 e
  · unfold freeAt
    rw [Bool.not_eq_false', List.any_eq_true]
    refine ⟨o, ho, ?_⟩
    unfold clash
    have hm2 : meet l (moved h u) o = true := hm
    have h3 : o.bg < en l (moved h u) := by
      have e1 : en l (moved h u) = u + (jAt l h.jb).sp := rfl
      have e2 : en l (moved h b) = b + (jAt l h.jb).sp := rfl
      omega
    have h4 : (moved h u).bg < en l o := hu2
    simp [hm2, h3, h4]
theorem Upto.done {l : List Jb} {ps : List Hp} {h : Hp} {b : Int} (hu : Upto l ps h b) (hf : freeAt l ps h b = true) (hb : b ≤ h.bg + 100000) : lf l ps h = b :=
  seek_at _ b hf far h.bg hu.le (by unfold far; omega) hu.no
theorem freeAt_of {l : List Jb} {ps : List Hp} {h : Hp} {b : Int} (hn : ∀ o ∈ ps, clash l (moved h b) o = false) : freeAt l ps h b = true := by
  unfold freeAt
  rw [Bool.not_eq_true', List.any_eq_false]
  intro o ho; rw [hn o ho]; simp
/-- The hop behind another one of its job. -/
def beh (l : List Jb) (h : Hp) : Hp := ⟨h.jb, nx l h, en l h⟩
def firstH (l : List Jb) (i : Int) : Hp := ⟨i, (jAt l i).fr, (jAt l i).st⟩
def freed (l : List Jb) (ps : List Hp) (h : Hp) : Hp := moved h (lf l ps h)
/-- The hops of a job that is added to those that are placed: the k-th one, before it waits. -/
def pre (l : List Jb) (ps : List Hp) (i : Int) : Nat → Hp
  | 0 => firstH l i
  | k + 1 => beh l (freed l ps (pre l ps i k))
def hopsTo (l : List Jb) (ps : List Hp) (i : Int) (k : Nat) : List Hp := (List.range k).map fun j => freed l ps (pre l ps i j)
theorem hopsTo_succ (l : List Jb) (ps : List Hp) (i : Int) (k : Nat) : hopsTo l ps i (k + 1) = hopsTo l ps i k ++ [freed l ps (pre l ps i k)] := by
  unfold hopsTo; rw [List.range_succ, List.map_append]; rfl
theorem hopsTo_len (l : List Jb) (ps : List Hp) (i : Int) (k : Nat) : (hopsTo l ps i k).length = k := by simp [hopsTo]
def hopsL (l : List Jb) (ps : List Hp) (i : Int) : List Hp := hopsTo l ps i (stp (jAt l i)).toNat
theorem pre_jb (l : List Jb) (ps : List Hp) (i : Int) (k : Nat) : (pre l ps i k).jb = i := by
  induction k with
  | zero => rfl
  | succ k ih => exact ih
theorem pre_fr {n : Int} {l : List Jb} {ps : List Hp} {i : Int} (hv : JobV n (jAt l i)) : ∀ k : Nat, (k : Int) ≤ stp (jAt l i) → (pre l ps i k).fr = (jAt l i).fr + way (jAt l i) * k := by
  intro k
  induction k with
  | zero => intro _; simp [pre, firstH]
  | succ k ih =>
    intro hk
    have h1 := ih (by omega)
    have h2 : (pre l ps i (k + 1)).fr = (pre l ps i k).fr + cmpI (jAt l (pre l ps i k).jb).to (pre l ps i k).fr := rfl
    rw [h2, pre_jb, h1]
    unfold stp at hk
    unfold way cmpI
    have := hv.ne
    by_cases e : (jAt l i).fr < (jAt l i).to
    · rw [if_pos e] at hk ⊢
      have e1 : ¬ (jAt l i).to < (jAt l i).fr + 1 * (k : Int) := by omega
      have e2 : (jAt l i).fr + 1 * (k : Int) < (jAt l i).to := by omega
      rw [if_neg e1, if_pos e2]; omega
    · rw [if_neg e] at hk ⊢
      have e1 : (jAt l i).to < (jAt l i).fr + -1 * (k : Int) := by omega
      rw [if_pos e1]; omega
theorem pre_beyond {n : Int} {l : List Jb} {ps : List Hp} {i : Int} (hv : JobV n (jAt l i)) (k : Nat) (hk : (k : Int) ≤ stp (jAt l i)) : ((pre l ps i k).fr = (jAt l i).to) ↔ (k : Int) = stp (jAt l i) := by
  rw [pre_fr hv k hk]
  unfold stp at hk ⊢
  unfold way
  by_cases e : (jAt l i).fr < (jAt l i).to
  · rw [if_pos e] at hk ⊢; rw [if_pos e]; omega
  · rw [if_neg e] at hk ⊢; rw [if_neg e]; omega
theorem stp_pos {n : Int} {j : Jb} (hv : JobV n j) : 1 ≤ stp j ∧ stp j < n := by
  have := hv.ne
  have := hv.fr0
  have := hv.fr1
  have := hv.to0
  have := hv.to1
  unfold stp
  by_cases e : j.fr < j.to
  · rw [if_pos e]; omega
  · rw [if_neg e]; omega
end Go.Proofs.Ytiialbnfgichhaa
