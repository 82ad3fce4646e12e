/-
  Plain facts on units and plain lines: a line without its ends has the inner runs, what divides all lengths, what is left of a line by its unit; the signal of a line. No program. Used by the claims on chapter 4.
-/
import Derived.Test.YtijhfmjkiijhiaaRunL
import Derived.Lib.SlTrimSet
namespace Go.Proofs.Ytijhfmjkiijhiaa
set_option linter.unusedVariables false

def trimL (l : Bs) : Bs := Lib.trimS l [48]
def cut0 : Rs → Rs
  | [] => []
  | p :: r => if p.1 = 0 then r else p :: r
def innerFrom (rs : Rs) : Nat := if 0 < rs.length ∧ (rs.getD 0 (1, 0)).1 = 0 then 1 else 0
def innerTo (rs : Rs) : Nat := if innerFrom rs < rs.length ∧ (rs.getD (rs.length - 1) (1, 0)).1 = 0 then rs.length - 1 else rs.length
def innerL (rs : Rs) : Rs := (rs.take (innerTo rs)).drop (innerFrom rs)
theorem Good.rev : ∀ {rs : Rs}, Good rs → Good rs.reverse
  | [], _ => trivial
  | p :: r, h => by
    rw [List.reverse_cons]
    refine good_snoc (Good.rev h.tail) h.head.1 h.head.2 ?_
    intro q hq
    rw [List.getLast?_reverse] at hq
    cases r with
    | nil => simp at hq
    | cons q2 r =>
      obtain rfl : q2 = q := by simpa using hq
      exact fun e => h.2.2.1 e.symm
theorem Good.cut {rs : Rs} (h : Good rs) : Good (cut0 rs) := by
  cases rs with
  | nil => trivial
  | cons p r =>
    show Good (if p.1 = 0 then r else p :: r)
    split
    · exact h.tail
    · exact h
theorem spell_rev (rs : Rs) : (spell rs).reverse = spell rs.reverse := by
  induction rs with
  | nil => rfl
  | cons p r ih => rw [spell_cons, List.reverse_append, ih, List.reverse_cons, spell_snoc, List.reverse_replicate]
theorem drop_rep {c : UInt8} {x : Bs} {P : UInt8 → Bool} (h : P c = true) : ∀ n, (List.replicate n c ++ x).dropWhile P = x.dropWhile P
  | 0 => by simp
  | n + 1 => by rw [List.replicate_succ, List.cons_append, List.dropWhile_cons, if_pos h, drop_rep h n]
theorem drop_stay {x : Bs} {P : UInt8 → Bool} (h : ∀ d, x.head? = some d → P d = false) : x.dropWhile P = x := by
  cases x with
  | nil => rfl
  | cons d x => rw [List.dropWhile_cons, if_neg (by rw [h d rfl]; simp)]
theorem drop_spell {rs : Rs} (h : Good rs) : (spell rs).dropWhile ([(48 : UInt8)].contains ·) = spell (cut0 rs) := by
  cases rs with
  | nil => rfl
  | cons p r =>
    show _ = spell (if p.1 = 0 then r else p :: r)
    split
    · rename_i e
      have e2 : byteOf p.1 = 48 := by rw [e]; rfl
      rw [spell_cons, drop_rep (by rw [e2]; rfl), drop_stay]
      intro d hd
      have := h.next d hd
      rw [e2] at this
      rw [Lib.contains_one]
      exact beq_false_of_ne this
    · rename_i e
      refine drop_stay fun d hd => ?_
      rw [spell_head h.head.2] at hd
      obtain rfl : byteOf p.1 = d := by simpa using hd
      have : p.1 = 1 := by have := h.head.1; omega
      rw [this]; rfl
theorem trim_spell {rs : Rs} (h : Good rs) : trimL (spell rs) = spell (cut0 (cut0 rs.reverse).reverse) ∧ Good (cut0 (cut0 rs.reverse).reverse) := by
  refine ⟨?_, h.rev.cut.rev.cut⟩
  unfold trimL Lib.trimS Lib.trimRightS Lib.trimLeftS
  rw [spell_rev, drop_spell h.rev, spell_rev, drop_spell h.rev.cut.rev]
theorem cut_inner (rs : Rs) : cut0 (cut0 rs.reverse).reverse = innerL rs := by
  rcases List.eq_nil_or_concat rs with rfl | ⟨r, q, rfl⟩
  · rfl
  · rw [List.concat_eq_append, List.reverse_append]
    simp only [List.reverse_cons, List.reverse_nil, List.nil_append, List.cons_append]
    have hl : (r ++ [q]).getD ((r ++ [q]).length - 1) (1, 0) = q := by simp
    by_cases e : q.1 = 0
    · have e1 : cut0 (q :: r.reverse) = r.reverse := by simp [cut0, e]
      rw [e1, List.reverse_reverse]
      cases r with
      | nil => simp [cut0, innerL, innerFrom, innerTo, e]
      | cons p r =>
        have hto : innerTo (p :: r ++ [q]) = (p :: r).length := by
          unfold innerTo
          rw [hl, if_pos]
          · simp
          · refine ⟨?_, e⟩
            unfold innerFrom; split <;> simp
        unfold innerL
        rw [hto, List.take_left]
        unfold innerFrom cut0
        by_cases e3 : p.1 = 0
        · simp [e3]
        · simp [e3]
    · have e1 : cut0 (q :: r.reverse) = q :: r.reverse := by simp [cut0, e]
      rw [e1]
      simp only [List.reverse_cons, List.reverse_reverse]
      have hto : innerTo (r ++ [q]) = (r ++ [q]).length := by
        unfold innerTo
        rw [hl, if_neg (fun h => e h.2)]
      unfold innerL
      rw [hto, List.take_length]
      unfold innerFrom
      cases r with
      | nil => simp [cut0, e]
      | cons p r =>
        unfold cut0
        by_cases e3 : p.1 = 0
        · simp [e3]
        · simp [e3]
theorem runs_trim {l : Bs} (h : ∀ c ∈ l, c = 48 ∨ c = 49) : runsL (trimL l) = innerL (runsL l) ∧ Good (innerL (runsL l)) ∧ spell (innerL (runsL l)) = trimL l := by
  obtain ⟨h1, h2⟩ := runsL_good h
  obtain ⟨h3, h4⟩ := trim_spell h1
  rw [h2] at h3
  rw [cut_inner] at h3 h4
  exact ⟨by rw [h3, runsL_of h4], h4, h3.symm⟩
theorem trim_len (l : Bs) : (trimL l).length ≤ l.length := by
  unfold trimL Lib.trimS Lib.trimLeftS Lib.trimRightS
  have h1 := (List.dropWhile_sublist ([(48 : UInt8)].contains ·) (l := ((l.reverse.dropWhile ([(48 : UInt8)].contains ·)).reverse))).length_le
  have h2 := (List.dropWhile_sublist ([(48 : UInt8)].contains ·) (l := l.reverse)).length_le
  simp only [List.length_reverse] at h1 h2
  omega
theorem trim_beat {l : Bs} (h : ∀ c ∈ l, c = 48 ∨ c = 49) : ∀ c ∈ trimL l, c = 48 ∨ c = 49 := by
  intro c hc
  apply h
  have h1 := (List.dropWhile_sublist ([(48 : UInt8)].contains ·) (l := ((l.reverse.dropWhile ([(48 : UInt8)].contains ·)).reverse))).subset
  have h2 := (List.dropWhile_sublist ([(48 : UInt8)].contains ·) (l := l.reverse)).subset
  exact List.mem_reverse.1 (h2 (List.mem_reverse.1 (h1 hc)))
theorem trim_line {l : Bs} (h : lineL l = true) : lineL (trimL l) = true :=
  line_mk (by have := trim_len l; have := line_len h; omega) (trim_beat fun c hc => line_beat h hc)

theorem contains_beat (c : UInt8) : [(49 : UInt8), 48].contains c = isBeat c := by
  unfold isBeat
  rw [List.contains_cons, Lib.contains_one, Bool.or_comm]
theorem drop_all (P : UInt8 → Bool) (l : Bs) : (∀ c ∈ l.dropWhile P, P c = true) ↔ ∀ c ∈ l, P c = true := by
  induction l with
  | nil => simp
  | cons d l ih =>
    rw [List.dropWhile_cons]
    split
    · rename_i h
      rw [ih]
      constructor
      · intro h2 c hc
        rcases List.mem_cons.1 hc with rfl | hc
        · exact h
        · exact h2 c hc
      · intro h2 c hc; exact h2 c (List.mem_cons_of_mem _ hc)
    · rfl
theorem drop_nil (P : UInt8 → Bool) (l : Bs) : l.dropWhile P = [] ↔ ∀ c ∈ l, P c = true := by
  rw [← drop_all]
  constructor
  · intro h; rw [h]; simp
  · intro h
    cases e : l.dropWhile P with
    | nil => rfl
    | cons d r =>
      have h1 := h d (by rw [e]; exact List.mem_cons_self ..)
      have : ∀ l : Bs, l.dropWhile P = d :: r → P d = false := by
        intro l
        induction l with
        | nil => intro h; simp at h
        | cons c l ih =>
          rw [List.dropWhile_cons]
          split
          · exact ih
          · rename_i h2
            intro h3
            injection h3 with h4
            subst h4
            simpa using h2
      rw [this l e] at h1
      exact absurd h1 (by simp)
theorem trim_beats (l : Bs) : (Lib.trimS l [49, 48]).isEmpty = l.all isBeat := by
  have e : (fun c => [(49 : UInt8), 48].contains c) = isBeat := funext contains_beat
  unfold Lib.trimS Lib.trimLeftS Lib.trimRightS
  rw [e, Bool.eq_iff_iff, List.isEmpty_iff, drop_nil, List.all_eq_true]
  constructor
  · intro h c hc
    exact (drop_all isBeat l.reverse).1 (fun d hd => h d (List.mem_reverse.2 hd)) c (List.mem_reverse.2 hc)
  · intro h c hc
    exact (drop_all isBeat l.reverse).2 (fun d hd => h d (List.mem_reverse.1 hd)) c (List.mem_reverse.1 hc)

/-! ### Units -/
def unitTo (rs : Rs) : Nat → Nat
  | 0 => 0
  | k + 1 => Nat.gcd (unitTo rs k) (rs.getD k (0, 0)).2
def unitL (rs : Rs) : Nat := unitTo rs rs.length
theorem unitTo_dvd (rs : Rs) : ∀ k i, i < k → unitTo rs k ∣ (rs.getD i (0, 0)).2
  | 0, i, h => absurd h (by omega)
  | k + 1, i, h => by
    unfold unitTo
    by_cases e : i = k
    · subst e; exact Nat.gcd_dvd_right _ _
    · exact Nat.dvd_trans (Nat.gcd_dvd_left _ _) (unitTo_dvd rs k i (by omega))
theorem unit_dvd {rs : Rs} {p : Nat × Nat} (h : p ∈ rs) : unitL rs ∣ p.2 := by
  obtain ⟨i, hi, e⟩ := List.getElem_of_mem h
  have := unitTo_dvd rs rs.length i hi
  rw [List.getD_eq_getElem?_getD, List.getElem?_eq_getElem hi] at this
  subst e
  exact this
theorem unit_pos {rs : Rs} {p : Nat × Nat} (h : p ∈ rs) (h1 : 1 ≤ p.2) : 0 < unitL rs := by
  rcases Nat.eq_zero_or_pos (unitL rs) with e | e
  · have := unit_dvd h
    rw [e, Nat.zero_dvd] at this
    omega
  · exact e
def runsMax (rs : Rs) (m : Nat) : Prop := ∀ p ∈ rs, p.2 ≤ m
theorem unitTo_le {rs : Rs} {m : Nat} (h : runsMax rs m) : ∀ k, unitTo rs k ≤ m
  | 0 => Nat.zero_le _
  | k + 1 => by
    have ih := unitTo_le h k
    unfold unitTo
    by_cases hk : k < rs.length
    · rw [List.getD_eq_getElem?_getD, List.getElem?_eq_getElem hk]
      by_cases e : (rs[k]).2 = 0
      · simp [e]; exact ih
      · have h1 : 0 < (rs[k]).2 := Nat.pos_of_ne_zero e
        exact Nat.le_trans (Nat.le_of_dvd h1 (Nat.gcd_dvd_right _ _)) (h _ (List.getElem_mem hk))
    · rw [List.getD_eq_getElem?_getD, List.getElem?_eq_none (by omega)]; simpa using ih
theorem spell_len (rs : Rs) : (spell rs).length = (rs.map (·.2)).sum := by
  induction rs with
  | nil => rfl
  | cons p r ih => rw [spell_cons, List.length_append, List.length_replicate, ih]; simp
theorem spell_max (rs : Rs) : runsMax rs (spell rs).length := by
  intro p hp
  rw [spell_len]
  induction rs with
  | nil => simp at hp
  | cons q r ih =>
    simp only [List.map_cons, List.sum_cons]
    rcases List.mem_cons.1 hp with rfl | hp
    · omega
    · have := ih hp; omega
theorem good_len {rs : Rs} (h : Good rs) : rs.length ≤ (spell rs).length := by
  induction rs with
  | nil => simp
  | cons p r ih =>
    have := ih h.tail
    have := h.head.2
    rw [spell_cons, List.length_append, List.length_replicate, List.length_cons]
    omega

/-! ### Plain lines -/
def plainTo (rs : Rs) (u : Nat) : Nat → Bs
  | 0 => []
  | k + 1 => plainTo rs u k ++ List.replicate ((rs.getD k (0, 0)).2 / u) (byteOf (rs.getD k (0, 0)).1)
def sampTo (t : Bs) (u : Nat) : Nat → Bs
  | 0 => []
  | k + 1 => sampTo t u k ++ [t.getD (k * u) 0]
theorem sampTo_len (t : Bs) (u : Nat) : ∀ k, (sampTo t u k).length = k
  | 0 => rfl
  | k + 1 => by simp [sampTo, sampTo_len t u k]
theorem plainTo_spell (rs : Rs) (u : Nat) : ∀ k, k ≤ rs.length → plainTo rs u k = spell ((rs.take k).map fun p => (p.1, p.2 / u))
  | 0, _ => by simp [plainTo, spell]
  | k + 1, h => by
    have e : rs.getD k (0, 0) = rs[k]'(by omega) := by rw [List.getD_eq_getElem?_getD, List.getElem?_eq_getElem (by omega)]; rfl
    rw [plainTo, plainTo_spell rs u k (by omega), List.take_succ_eq_append_getElem (by omega), List.map_append, e]
    simp only [List.map_cons, List.map_nil]
    rw [spell_snoc]
theorem samp_rep {c : UInt8} {t : Bs} {u m : Nat} (hu : 0 < u) : ∀ j, j ≤ m → sampTo (List.replicate (m * u) c ++ t) u j = List.replicate j c
  | 0, _ => rfl
  | j + 1, h => by
    have h1 : j * u < m * u := Nat.mul_lt_mul_of_pos_right (by omega) hu
    rw [sampTo, samp_rep hu j (by omega), List.replicate_succ']
    congr 2
    rw [List.getD_eq_getElem?_getD, List.getElem?_append_left (by simpa using h1), List.getElem?_replicate_of_lt h1]; rfl
theorem samp_app {c : UInt8} {t : Bs} {u m : Nat} (hu : 0 < u) : ∀ k, sampTo (List.replicate (m * u) c ++ t) u (m + k) = List.replicate m c ++ sampTo t u k
  | 0 => by rw [Nat.add_zero, samp_rep hu m (Nat.le_refl _)]; simp [sampTo]
  | k + 1 => by
    rw [← Nat.add_assoc, sampTo, samp_app hu k, sampTo, List.append_assoc]
    congr 3
    rw [List.getD_eq_getElem?_getD, List.getD_eq_getElem?_getD, List.getElem?_append_right (by rw [List.length_replicate, Nat.add_mul]; omega), List.length_replicate]
    congr 2
    rw [Nat.add_mul]; omega
theorem samp_spell {u : Nat} (hu : 0 < u) : ∀ {rs : Rs}, (∀ p ∈ rs, u ∣ p.2) → sampTo (spell rs) u ((spell rs).length / u) = spell (rs.map fun p => (p.1, p.2 / u))
  | [], _ => by simp [spell, sampTo]
  | p :: r, h => by
    obtain ⟨m, hm⟩ := h p (List.mem_cons_self ..)
    have hm2 : p.2 = m * u := by rw [hm, Nat.mul_comm]
    have hd : p.2 / u = m := by rw [hm2, Nat.mul_div_cancel _ hu]
    rw [List.map_cons, spell_cons, spell_cons]
    simp only
    rw [hd, List.length_append, List.length_replicate, hm2, Nat.add_comm (m * u), Nat.add_mul_div_right _ _ hu, Nat.add_comm, samp_app hu, samp_spell hu (fun q hq => h q (List.mem_cons_of_mem _ hq))]
def plainL (l : Bs) : Bs := plainTo (innerL (runsL l)) (unitL (innerL (runsL l))) (innerL (runsL l)).length
theorem plain_nil {l : Bs} (h : ∀ c ∈ l, c = 48 ∨ c = 49) (ht : trimL l = []) : plainL l = [] := by
  obtain ⟨_, h2, h3⟩ := runs_trim h
  have hi : innerL (runsL l) = [] := by
    have := good_len h2
    rw [h3, ht] at this
    simpa using this
  simp [plainL, hi, plainTo]
theorem plain_samp {l : Bs} (h : ∀ c ∈ l, c = 48 ∨ c = 49) (ht : trimL l ≠ []) : 0 < unitL (innerL (runsL l)) ∧ sampTo (trimL l) (unitL (innerL (runsL l))) ((trimL l).length / unitL (innerL (runsL l))) = plainL l := by
  obtain ⟨_, h2, h3⟩ := runs_trim h
  have hu : 0 < unitL (innerL (runsL l)) := by
    cases e : innerL (runsL l) with
    | nil => rw [e] at h3; simp [spell] at h3; exact absurd h3 ht
    | cons p r =>
      rw [e] at h2
      exact unit_pos (List.mem_cons_self ..) h2.head.2
  refine ⟨hu, ?_⟩
  rw [plainL, plainTo_spell _ _ _ (Nat.le_refl _), List.take_length, ← samp_spell hu (fun p hp => unit_dvd hp), h3]
theorem plain_line {l : Bs} (h : lineL l = true) : lineL (plainL l) = true := by
  have hb := fun c hc => line_beat h (c := c) hc
  by_cases ht : trimL l = []
  · rw [plain_nil hb ht]; rfl
  · obtain ⟨h1, h2⟩ := plain_samp hb ht
    obtain ⟨_, h3, h4⟩ := runs_trim hb
    refine line_mk ?_ ?_
    · rw [← h2, sampTo_len]
      have := trim_len l
      have := line_len h
      have := Nat.div_le_self (trimL l).length (unitL (innerL (runsL l)))
      omega
    · rw [plainL, plainTo_spell _ _ _ (Nat.le_refl _), List.take_length]
      intro c hc
      simp only [spell, List.mem_flatMap, List.mem_map] at hc
      obtain ⟨_, ⟨p, hp, rfl⟩, hc⟩ := hc
      have h5 := (h3.mem p hp).1
      rw [(List.mem_replicate.1 hc).2]
      show byteOf p.1 = 48 ∨ byteOf p.1 = 49
      have : p.1 = 0 ∨ p.1 = 1 := by omega
      rcases this with e | e <;> rw [e] <;> decide

/-! ### The signal of a line -/
def runOk (p : Nat × Nat) : Bool := (p.1 == 1 && (p.2 == 1 || p.2 == 3)) || (p.1 == 0 && (p.2 == 1 || p.2 == 3 || p.2 == 7))
def runSgn (p : Nat × Nat) : Bs := if p.1 = 1 then (if p.2 = 1 then [46] else [45]) else (if p.2 = 1 then [] else if p.2 = 3 then [32] else [47])
def sgnTo (rs : Rs) : Nat → Bs
  | 0 => []
  | k + 1 => sgnTo rs k ++ runSgn (rs.getD k (0, 0))
def sgnL (rs : Rs) : Bs := sgnTo rs rs.length
theorem sgnTo_le (rs : Rs) : ∀ k, (sgnTo rs k).length ≤ k
  | 0 => Nat.le_refl _
  | k + 1 => by
    have := sgnTo_le rs k
    have h2 : (runSgn (rs.getD k (0, 0))).length ≤ 1 := by unfold runSgn; split <;> (try split) <;> (try split) <;> simp
    simp only [sgnTo, List.length_append]; omega
def sigOk (l : Bs) : Bool := (runsL l).all runOk && (pieces (sgnL (runsL l))).isSome && (lnL (sgnL (runsL l)) == l)
def lineOk (s : Bs) : Bool := (pieces s).isSome && decide (tmGo false s ≤ 200)
theorem sigOk_line {l : Bs} (h : lineL l = true) : sigOk l = ((runsL l).all runOk && (lineOk (sgnL (runsL l)) && (lnL (sgnL (runsL l)) == l))) := by
  unfold sigOk lineOk
  cases (runsL l).all runOk <;> cases (pieces (sgnL (runsL l))).isSome <;> simp
  intro e
  rw [← ln_time, e]
  exact line_len h
end Go.Proofs.Ytijhfmjkiijhiaa
