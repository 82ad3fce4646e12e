/-
  Plain facts on marks, tables, messages and signals. No program. Used by the claims on chapter 2.
-/
import Derived.Lib.Join
namespace Go.Proofs.Ythkafalpjokfeaa

abbrev Bs := List UInt8
def isMk (b : UInt8) : Bool := b == 46 || b == 45
def marksL (l : Bs) : Bool := decide (1 ≤ l.length) && decide (l.length ≤ 5) && l.all isMk
def tableL (T : List Bs) : Bool := decide (1 ≤ T.length) && decide (T.length ≤ 10) && T.all marksL && decide T.Nodup
def place (T : List Bs) (k : Bs) : Option Nat := T.findIdx? (· == k)
def inRow (n : Nat) (c : UInt8) : Bool := decide (97 ≤ c.toNat) && decide (c.toNat < 97 + n)

/-- A message: what is before begins it or is a space. -/
def msgGo (n : Nat) : Bool → Bs → Bool
  | b, [] => !b
  | b, c :: r => if c = 32 then !b && msgGo n true r else inRow n c && msgGo n false r
def msgL (n : Nat) (m : Bs) : Bool := decide (m.length ≤ 12) && (m.isEmpty || msgGo n true m)

/-- The pieces of a signal, sign by sign. -/
def fin : List Bs → Bs → Bs → Option (List Bs)
  | ps, cur, [] => if marksL cur && decide (ps.length < 12) then some (ps ++ [cur]) else none
  | ps, cur, c :: r =>
    if isMk c then fin ps (cur ++ [c]) r
    else if (c == 32 || c == 47) && marksL cur && decide (ps.length < 12) then fin (ps ++ [cur] ++ (if c == 47 then [[47]] else [])) [] r
    else none
def pieces (s : Bs) : Option (List Bs) := if s = [] then some [] else fin [] [] s

def splitL (b : UInt8) : Bs → List Bs
  | [] => [[]]
  | c :: r => if c = b then [] :: splitL b r else match splitL b r with | [] => [[c]] | x :: xs => (c :: x) :: xs
def wordsL (s : Bs) : List (List Bs) := (splitL 47 s).map (splitL 32)
def flat : List (List Bs) → List Bs
  | [] => []
  | [w] => w
  | w :: v :: ws => w ++ [47] :: flat (v :: ws)
def glue (cur : Bs) : List (List Bs) → List (List Bs)
  | (x :: xs) :: ws => ((cur ++ x) :: xs) :: ws
  | ws => ws
def allMk (ws : List (List Bs)) : Bool := ws.all (fun w => w.all marksL)

theorem splitL_ne (b : UInt8) (s : Bs) : splitL b s ≠ [] := by
  cases s with
  | nil => simp [splitL]
  | cons c r =>
    unfold splitL
    split
    · simp
    · split <;> simp
theorem splitL_cons (b : UInt8) (s : Bs) : ∃ x xs, splitL b s = x :: xs := by
  cases h : splitL b s with
  | nil => exact absurd h (splitL_ne b s)
  | cons x xs => exact ⟨x, xs, rfl⟩
theorem splitL_hit (b : UInt8) (r : Bs) : splitL b (b :: r) = [] :: splitL b r := by simp [splitL]
theorem splitL_miss {b c : UInt8} (h : c ≠ b) {r : Bs} {x : Bs} {xs : List Bs} (e : splitL b r = x :: xs) : splitL b (c :: r) = (c :: x) :: xs := by simp [splitL, h, e]

theorem wordsL_nil : wordsL [] = [[[]]] := rfl
theorem wordsL_cons (s : Bs) : ∃ x xs ws, wordsL s = (x :: xs) :: ws := by
  obtain ⟨y, ys, e⟩ := splitL_cons 47 s
  obtain ⟨x, xs, e2⟩ := splitL_cons 32 y
  exact ⟨x, xs, ys.map (splitL 32), by simp [wordsL, e, e2]⟩
theorem wordsL_word (r : Bs) : wordsL (47 :: r) = [[]] :: wordsL r := by simp [wordsL, splitL]
theorem wordsL_gap {r : Bs} {x : Bs} {xs : List Bs} {ws : List (List Bs)} (e : wordsL r = (x :: xs) :: ws) : wordsL (32 :: r) = ([] :: x :: xs) :: ws := by
  obtain ⟨y, ys, e1⟩ := splitL_cons 47 r
  have : splitL 47 (32 :: r) = (32 :: y) :: ys := splitL_miss (by decide) e1
  unfold wordsL at e ⊢
  rw [e1] at e
  rw [this]
  simp only [List.map_cons, List.cons.injEq] at e ⊢
  refine ⟨?_, e.2⟩
  rw [splitL_hit, e.1]
theorem wordsL_sign {c : UInt8} (h1 : c ≠ 47) (h2 : c ≠ 32) {r : Bs} {x : Bs} {xs : List Bs} {ws : List (List Bs)} (e : wordsL r = (x :: xs) :: ws) : wordsL (c :: r) = ((c :: x) :: xs) :: ws := by
  obtain ⟨y, ys, e1⟩ := splitL_cons 47 r
  have : splitL 47 (c :: r) = (c :: y) :: ys := splitL_miss h1 e1
  unfold wordsL at e ⊢
  rw [e1] at e
  rw [this]
  simp only [List.map_cons, List.cons.injEq] at e ⊢
  exact ⟨splitL_miss h2 e.1, e.2⟩

theorem flat_cons (w : List Bs) (ws : List (List Bs)) (h : ws ≠ []) : flat (w :: ws) = w ++ [47] :: flat ws := by
  cases ws with
  | nil => exact absurd rfl h
  | cons v ws => rfl
theorem flat_first (x : Bs) (xs : List Bs) (ws : List (List Bs)) : flat ((x :: xs) :: ws) = x :: (match ws with | [] => xs | _ => xs ++ [47] :: flat ws) := by
  cases ws with
  | nil => rfl
  | cons v ws => rfl

/-- The sign by sign reading is the reading by words. -/
theorem fin_words (r : Bs) : ∀ (ps : List Bs) (cur : Bs), fin ps cur r = if allMk (glue cur (wordsL r)) = true ∧ ps.length + (flat (glue cur (wordsL r))).length ≤ 12 then some (ps ++ flat (glue cur (wordsL r))) else none := by
  induction r with
  | nil =>
    intro ps cur
    simp only [fin, wordsL_nil, glue, List.append_nil, flat, allMk, List.all_cons, List.all_nil, Bool.and_true, Bool.and_eq_true, decide_eq_true_eq, List.length_cons, List.length_nil]
    by_cases h : marksL cur = true ∧ ps.length < 12
    · rw [if_pos h, if_pos ⟨h.1, by omega⟩]
    · rw [if_neg h, if_neg (fun h2 => h ⟨h2.1, by omega⟩)]
  | cons c r ih =>
    intro ps cur
    obtain ⟨x, xs, ws, e⟩ := wordsL_cons r
    unfold fin
    by_cases hm : isMk c = true
    · have h1 : c ≠ 47 := by intro h; subst h; exact absurd hm (by decide)
      have h2 : c ≠ 32 := by intro h; subst h; exact absurd hm (by decide)
      rw [if_pos hm, ih, wordsL_sign h1 h2 e, e]
      have eg : glue (cur ++ [c]) ((x :: xs) :: ws) = glue cur (((c :: x) :: xs) :: ws) := by simp [glue]
      rw [eg]
    · rw [if_neg hm]
      by_cases h2 : c = 32
      · subst h2
        rw [wordsL_gap e]
        simp only [glue, List.append_nil]
        by_cases hc : marksL cur = true
        · by_cases hl : ps.length < 12
          · rw [if_pos (by simp [hc, hl]), ih, e]
            simp only [glue, List.nil_append]
            have ha : allMk ((cur :: x :: xs) :: ws) = allMk ((x :: xs) :: ws) := by simp [allMk, hc]
            have hf : flat ((cur :: x :: xs) :: ws) = cur :: flat ((x :: xs) :: ws) := by
              cases ws <;> rfl
            rw [ha, hf]
            have : (32 == (47 : UInt8)) = false := by decide
            simp only [this, List.length_append, List.length_cons, List.length_nil]
            have e3 : ps.length + (0 + 1) + (flat ((x :: xs) :: ws)).length = ps.length + ((flat ((x :: xs) :: ws)).length + 1) := by omega
            simp [e3]
          · rw [if_neg (by simp [hl]), if_neg]
            rintro ⟨_, h⟩
            rw [flat_first] at h
            simp at h; omega
        · rw [if_neg (by simp [hc]), if_neg]
          rintro ⟨h, _⟩
          simp [allMk, hc] at h
      · by_cases h1 : c = 47
        · subst h1
          rw [wordsL_word]
          simp only [glue, List.append_nil]
          have hf : flat ([cur] :: wordsL r) = cur :: [47] :: flat (wordsL r) := by rw [flat_cons _ _ (by rw [e]; simp)]; rfl
          have hpos : 1 ≤ (flat (wordsL r)).length := by rw [e, flat_first]; simp
          by_cases hc : marksL cur = true
          · by_cases hl : ps.length < 12
            · rw [if_pos (by simp [hc, hl]), ih]
              have hg : glue [] (wordsL r) = wordsL r := by rw [e]; rfl
              have ha : allMk ([cur] :: wordsL r) = allMk (wordsL r) := by simp [allMk, hc]
              rw [hg, ha, hf]
              have e3 : (ps ++ [cur] ++ (if (47 : UInt8) == 47 then [[47]] else [])).length + (flat (wordsL r)).length = ps.length + (cur :: [47] :: flat (wordsL r)).length := by simp; omega
              rw [e3]
              simp
            · rw [if_neg (by simp [hl]), if_neg]
              rintro ⟨_, h⟩
              rw [hf] at h
              simp at h; omega
          · rw [if_neg (by simp [hc]), if_neg]
            rintro ⟨h, _⟩
            simp [allMk, hc] at h
        · have e0 : ((c == 32 || c == 47) && marksL cur && decide (ps.length < 12)) = false := by simp [h1, h2]
          rw [e0, if_neg (by simp), if_neg]
          rintro ⟨h, _⟩
          rw [wordsL_sign h1 h2 e] at h
          simp only [glue, allMk, List.all_cons, Bool.and_eq_true] at h
          have := h.1.1
          unfold marksL at this
          simp only [Bool.and_eq_true, List.all_append, List.all_cons] at this
          exact hm this.2.2.1

theorem fin_len (r : Bs) : ∀ (ps : List Bs) (cur : Bs) (qs : List Bs), fin ps cur r = some qs → r.length + cur.length + 6 * ps.length ≤ 71 ∧ qs.length ≤ 12 := by
  induction r with
  | nil =>
    intro ps cur qs h
    simp only [fin] at h
    split at h
    · next hc =>
      simp only [marksL, Bool.and_eq_true, decide_eq_true_eq] at hc
      cases h
      simp; omega
    · cases h
  | cons c r ih =>
    intro ps cur qs h
    unfold fin at h
    split at h
    · have := ih _ _ _ h
      simp at this ⊢; omega
    · split at h
      · next hc =>
        have := ih _ _ _ h
        simp only [marksL, Bool.and_eq_true, decide_eq_true_eq] at hc
        simp only [List.length_append, List.length_cons, List.length_nil] at this ⊢
        omega
      · cases h

/-- The model's way to tell a signal. -/
def many (ws : List (List Bs)) : Nat := (ws.map (fun w => w.length + 1)).sum
theorem many_flat : ∀ ws : List (List Bs), ws ≠ [] → many ws = (flat ws).length + 1
  | [], h => absurd rfl h
  | [w], _ => by simp [many, flat]
  | w :: v :: ws, _ => by
    have := many_flat (v :: ws) (by simp)
    simp only [many, flat, List.map_cons, List.sum_cons, List.length_append, List.length_cons] at this ⊢
    omega
theorem pieces_words (s : Bs) (h : s ≠ []) : pieces s = if s.length ≤ 72 ∧ allMk (wordsL s) = true ∧ many (wordsL s) ≤ 13 then some (flat (wordsL s)) else none := by
  unfold pieces
  rw [if_neg h]
  have hf := fin_words s [] []
  obtain ⟨x, xs, ws, e⟩ := wordsL_cons s
  have hg : glue [] (wordsL s) = wordsL s := by rw [e]; rfl
  rw [hg] at hf
  have hm := many_flat (wordsL s) (by rw [e]; simp)
  by_cases hc : allMk (wordsL s) = true ∧ ([] : List Bs).length + (flat (wordsL s)).length ≤ 12
  · rw [if_pos hc] at hf
    have := (fin_len s [] [] _ hf).1
    have hc2 := hc.2
    simp at this hc2
    rw [hf, if_pos ⟨by omega, hc.1, by omega⟩]
    simp
  · rw [if_neg hc] at hf
    rw [hf, if_neg]
    rintro ⟨_, h1, h2⟩
    exact hc ⟨h1, by simp; omega⟩

/-! ### Encoding -/
def look (T : List Bs) (c : UInt8) : Bs := T.getD (c.toNat - 97) []
def encGo (T : List Bs) : Bool → Bs → Bs
  | _, [] => []
  | b, c :: r => if c = 32 then 47 :: encGo T true r else (if b then [] else [32]) ++ look T c ++ encGo T false r
def encL (T : List Bs) (m : Bs) : Bs := encGo T true m
def mp (T : List Bs) (m : Bs) : List Bs := m.map (fun c => if c = 32 then [47] else look T c)

theorem encGo_space (T : List Bs) (b : Bool) (r : Bs) : encGo T b (32 :: r) = 47 :: encGo T true r := by simp [encGo]
theorem encGo_first (T : List Bs) {c : UInt8} (h : c ≠ 32) (r : Bs) : encGo T false (c :: r) = 32 :: encGo T true (c :: r) := by simp [encGo, h]
theorem encGo_true (T : List Bs) {c : UInt8} (h : c ≠ 32) (r : Bs) : encGo T true (c :: r) = look T c ++ encGo T false r := by simp [encGo, h]

theorem join_cons2 (x y : Bs) (r : List Bs) (b : UInt8) : Lib.join (x :: y :: r) [b] = x ++ b :: Lib.join (y :: r) [b] := by
  rw [Lib.join_cons, Lib.join_cons]
  simp [Lib.joinTail]

/-- The program's way: words, each of them joined, then joined. -/
theorem enc_join (T : List Bs) (m : Bs) : encL T m = Lib.join ((splitL 32 m).map fun w => Lib.join (w.map (look T)) [32]) [47] := by
  unfold encL
  induction m with
  | nil => simp [encGo, splitL, Lib.join_one, Lib.join_nil]
  | cons c r ih =>
    by_cases hc : c = 32
    · subst hc
      obtain ⟨x, xs, e⟩ := splitL_cons 32 r
      rw [encGo_space, splitL_hit, ih, e]
      simp only [List.map_cons, List.map_nil]
      rw [join_cons2, Lib.join_nil]
      rfl
    · cases r with
      | nil =>
        rw [encGo_true T hc]
        simp [encGo, splitL, hc, Lib.join_one]
      | cons d r =>
        obtain ⟨x, xs, e⟩ := splitL_cons 32 (d :: r)
        rw [e] at ih
        rw [splitL_miss hc e, encGo_true T hc]
        by_cases hd : d = 32
        · subst hd
          rw [splitL_hit] at e
          cases e
          rw [encGo_space] at ih ⊢
          obtain ⟨y, ys, e2⟩ := splitL_cons 32 r
          rw [e2] at ih ⊢
          simp only [List.map_cons, List.map_nil] at ih ⊢
          rw [join_cons2, Lib.join_nil] at ih
          rw [join_cons2, Lib.join_one, ih]
          rfl
        · rw [encGo_first T hd, ih]
          obtain ⟨x', rfl⟩ : ∃ x', x = d :: x' := by
            obtain ⟨y, ys, e2⟩ := splitL_cons 32 r
            rw [splitL_miss hd e2] at e
            cases e
            exact ⟨_, rfl⟩
          cases xs with
          | nil => simp only [List.map_cons, List.map_nil, Lib.join_one]; rw [join_cons2]
          | cons z zs =>
            simp only [List.map_cons]
            rw [join_cons2, join_cons2, join_cons2]
            simp

theorem marks_of (T : List Bs) (h : tableL T = true) {i : Nat} {x : Bs} (hi : T[i]? = some x) : marksL x = true := by
  simp only [tableL, Bool.and_eq_true, List.all_eq_true] at h
  exact h.1.2 x (List.mem_of_getElem? hi)
theorem look_marks {T : List Bs} (h : tableL T = true) {c : UInt8} (hc : inRow T.length c = true) : ∃ i, i < T.length ∧ c.toNat = 97 + i ∧ T[i]? = some (look T c) ∧ marksL (look T c) = true := by
  simp only [inRow, Bool.and_eq_true, decide_eq_true_eq] at hc
  have hl : c.toNat - 97 < T.length := by omega
  have e : T[c.toNat - 97]? = some (look T c) := by
    unfold look
    rw [List.getD_eq_getElem?_getD, List.getElem?_eq_getElem hl]; rfl
  exact ⟨c.toNat - 97, hl, by omega, e, marks_of T h e⟩

theorem fin_marks (x r : Bs) : ∀ (ps : List Bs) (cur : Bs), x.all isMk = true → fin ps cur (x ++ r) = fin ps (cur ++ x) r := by
  induction x with
  | nil => intro ps cur _; simp
  | cons c x ih =>
    intro ps cur h
    simp only [List.all_cons, Bool.and_eq_true] at h
    rw [List.cons_append, fin, if_pos h.1, ih _ _ h.2]
    simp
theorem marks_all {x : Bs} (h : marksL x = true) : x.all isMk = true := by simp only [marksL, Bool.and_eq_true] at h; exact h.2

theorem inRow_ne {n : Nat} {c : UInt8} (h : inRow n c = true) : c ≠ 32 := by
  intro e; subst e
  simp [inRow] at h
theorem msgGo_space {n : Nat} {b : Bool} {r : Bs} : msgGo n b (32 :: r) = (!b && msgGo n true r) := by simp [msgGo]
theorem msgGo_row {n : Nat} {b : Bool} {c : UInt8} (h : c ≠ 32) {r : Bs} : msgGo n b (c :: r) = (inRow n c && msgGo n false r) := by simp [msgGo, h]

theorem fin_enc {T : List Bs} (h : tableL T = true) : ∀ (k : Nat) (r : Bs) (ps : List Bs) (x : Bs), r.length ≤ k → marksL x = true → msgGo T.length false r = true → ps.length + 1 + r.length ≤ 12 → fin ps x (encGo T false r) = some (ps ++ x :: mp T r) := by
  intro k
  induction k with
  | zero =>
    intro r ps x hk hx hm hl
    obtain rfl : r = [] := List.length_eq_zero_iff.1 (by omega)
    simp [encGo, fin, hx, mp]
    simp at hl; omega
  | succ k ih =>
    intro r ps x hk hx hm hl
    cases r with
    | nil =>
      simp [encGo, fin, hx, mp]
      simp at hl; omega
    | cons c r =>
      simp only [List.length_cons] at hk hl
      by_cases hc : c = 32
      · subst hc
        rw [msgGo_space] at hm
        simp only [Bool.not_false, Bool.true_and] at hm
        rw [encGo_space, fin, if_neg (by decide), if_pos (by simp [hx]; omega)]
        cases r with
        | nil => simp [msgGo] at hm
        | cons d r =>
          have hd : d ≠ 32 := by intro e; subst e; rw [msgGo_space] at hm; simp at hm
          rw [msgGo_row hd, Bool.and_eq_true] at hm
          obtain ⟨_, _, _, _, hxd⟩ := look_marks h hm.1
          rw [encGo_true T hd, fin_marks _ _ _ _ (marks_all hxd)]
          simp only [List.length_cons] at hk hl
          rw [List.nil_append, ih r _ _ (by omega) hxd hm.2 (by simp; omega)]
          simp [mp, hd]
      · rw [msgGo_row hc, Bool.and_eq_true] at hm
        obtain ⟨_, _, _, _, hxd⟩ := look_marks h hm.1
        rw [encGo_first T hc, fin, if_neg (by decide), if_pos (by simp [hx]; omega), encGo_true T hc, fin_marks _ _ _ _ (marks_all hxd)]
        have e0 : ((32 : UInt8) == 47) = false := by decide
        rw [e0]
        rw [List.nil_append, ih r _ _ (by omega) hxd hm.2 (by simp; omega)]
        simp [mp, hc]

theorem look_ne {T : List Bs} (h : tableL T = true) {c : UInt8} (hc : inRow T.length c = true) : look T c ≠ [] := by
  obtain ⟨_, _, _, _, hx⟩ := look_marks h hc
  intro e; rw [e] at hx; exact absurd hx (by decide)

theorem pieces_enc {T : List Bs} (h : tableL T = true) {m : Bs} (hm : msgL T.length m = true) : pieces (encL T m) = some (mp T m) := by
  simp only [msgL, Bool.and_eq_true, decide_eq_true_eq, Bool.or_eq_true] at hm
  unfold encL
  cases m with
  | nil => rfl
  | cons c r =>
    have hm2 := hm.2
    simp only [List.isEmpty_cons, Bool.false_eq_true, false_or] at hm2
    have hc : c ≠ 32 := by intro e; subst e; rw [msgGo_space] at hm2; simp at hm2
    rw [msgGo_row hc, Bool.and_eq_true] at hm2
    obtain ⟨_, _, _, _, hxd⟩ := look_marks h hm2.1
    have hl := hm.1
    simp only [List.length_cons] at hl
    unfold pieces
    rw [encGo_true T hc, if_neg (by simp [look_ne h hm2.1]), fin_marks _ _ _ _ (marks_all hxd), List.nil_append, fin_enc h r.length r [] _ (Nat.le_refl _) hxd hm2.2 (by simp; omega)]
    simp [mp, hc]

/-! ### Decoding -/
def decP (T : List Bs) : List Bs → Option Bs
  | [] => some []
  | p :: r => if p = [47] then (decP T r).map (32 :: ·) else match place T p with | none => none | some i => (decP T r).map (UInt8.ofNat (97 + i) :: ·)
def decL (T : List Bs) (s : Bs) : Option Bs := match pieces s with | none => none | some ps => decP T ps

theorem place_some {T : List Bs} {k : Bs} {i : Nat} : place T k = some i ↔ T[i]? = some k ∧ ∀ j, j < i → T[j]? ≠ some k := by
  unfold place
  rw [List.findIdx?_eq_some_iff_getElem]
  constructor
  · rintro ⟨h, h1, h2⟩
    refine ⟨?_, fun j hj e => ?_⟩
    · rw [List.getElem?_eq_getElem h]; simpa using h1
    · have := h2 j hj
      obtain ⟨h3, e⟩ := List.getElem?_eq_some_iff.1 e
      simp [e] at this
  · rintro ⟨h1, h2⟩
    obtain ⟨h3, e⟩ := List.getElem?_eq_some_iff.1 h1
    refine ⟨h3, by simp [e], fun j hj => ?_⟩
    have := h2 j hj
    rw [List.getElem?_eq_getElem (by omega)] at this
    simpa using this
theorem place_none {T : List Bs} {k : Bs} : place T k = none ↔ k ∉ T := by
  unfold place
  rw [List.findIdx?_eq_none_iff]
  constructor
  · intro h hm; have := h k hm; simp at this
  · intro h x hx; simp; intro e; exact h (e ▸ hx)
theorem nodup_of {T : List Bs} (h : tableL T = true) : T.Nodup := by simp only [tableL, Bool.and_eq_true, decide_eq_true_eq] at h; exact h.2
theorem len_of {T : List Bs} (h : tableL T = true) : 1 ≤ T.length ∧ T.length ≤ 10 := by simp only [tableL, Bool.and_eq_true, decide_eq_true_eq] at h; exact h.1.1
theorem place_at {T : List Bs} (h : T.Nodup) {i : Nat} {x : Bs} (hi : T[i]? = some x) : place T x = some i := by
  rw [place_some]
  refine ⟨hi, fun j hj e => ?_⟩
  obtain ⟨h1, e1⟩ := List.getElem?_eq_some_iff.1 hi
  have := (List.getElem?_inj h1 h).1 (hi.trans e.symm)
  omega

theorem dec_mp {T : List Bs} (h : tableL T = true) : ∀ (m : Bs) (b : Bool), msgGo T.length b m = true → decP T (mp T m) = some m := by
  intro m
  induction m with
  | nil => intro _ _; rfl
  | cons c r ih =>
    intro b hm
    by_cases hc : c = 32
    · subst hc
      rw [msgGo_space, Bool.and_eq_true] at hm
      simp only [mp, List.map_cons, if_pos, decP]
      have := ih _ hm.2
      unfold mp at this
      rw [this]; rfl
    · rw [msgGo_row hc, Bool.and_eq_true] at hm
      obtain ⟨i, hi, e, hx, hmk⟩ := look_marks h hm.1
      have hne : look T c ≠ [47] := by intro e; rw [e] at hmk; exact absurd hmk (by decide)
      simp only [mp, List.map_cons, if_neg hc, decP, if_neg hne]
      rw [place_at (nodup_of h) hx]
      have := ih _ hm.2
      unfold mp at this
      simp only
      rw [this, ← e]
      simp
theorem dec_enc {T : List Bs} (h : tableL T = true) {m : Bs} (hm : msgL T.length m = true) : decL T (encL T m) = some m := by
  unfold decL
  rw [pieces_enc h hm]
  simp only [msgL, Bool.and_eq_true, Bool.or_eq_true] at hm
  rcases hm.2 with h0 | h0
  · have : m = [] := by simpa using h0
    subst this; rfl
  · exact dec_mp h m true h0

theorem toNat_97 {i : Nat} (h : i < 10) : (UInt8.ofNat (97 + i)).toNat = 97 + i := by rw [UInt8.toNat_ofNat']; omega
theorem fin_back {T : List Bs} (h : tableL T = true) : ∀ (r : Bs) (ps : List Bs) (cur : Bs) (qs : List Bs), fin ps cur r = some qs → ∃ t, qs = ps ++ t ∧ ∀ m, decP T t = some m → encGo T true m = cur ++ r ∧ msgGo T.length true m = true ∧ m.length = t.length := by
  have hL := len_of h
  have row : ∀ {i : Nat} {x : Bs}, place T x = some i → inRow T.length (UInt8.ofNat (97 + i)) = true ∧ look T (UInt8.ofNat (97 + i)) = x := by
    intro i x hp
    obtain ⟨h1, e⟩ := List.getElem?_eq_some_iff.1 (place_some.1 hp).1
    have hn := toNat_97 (i := i) (by omega)
    refine ⟨by simp only [inRow, hn, Bool.and_eq_true, decide_eq_true_eq]; omega, ?_⟩
    unfold look
    rw [hn, show 97 + i - 97 = i by omega, List.getD_eq_getElem?_getD, (place_some.1 hp).1]; rfl
  have first : ∀ {m : Bs}, msgGo T.length true m = true → encGo T false m = 32 :: encGo T true m ∧ msgGo T.length false m = true := by
    intro m hm
    cases m with
    | nil => simp [msgGo] at hm
    | cons c r =>
      have hc : c ≠ 32 := by intro e; subst e; rw [msgGo_space] at hm; simp at hm
      refine ⟨encGo_first T hc r, ?_⟩
      rw [msgGo_row hc] at hm ⊢
      exact hm
  intro r
  induction r with
  | nil =>
    intro ps cur qs hq
    simp only [fin] at hq
    split at hq
    · next hc =>
      cases hq
      refine ⟨[cur], rfl, fun m hm => ?_⟩
      rw [Bool.and_eq_true] at hc
      have hne : cur ≠ [47] := by intro e; rw [e] at hc; exact absurd hc.1 (by decide)
      simp only [decP, if_neg hne] at hm
      cases hp : place T cur with
      | none => rw [hp] at hm; simp at hm
      | some i =>
        rw [hp] at hm
        simp only [Option.map_some, Option.some.injEq] at hm
        subst hm
        obtain ⟨r1, r2⟩ := row hp
        have hne2 := inRow_ne r1
        refine ⟨?_, ?_, rfl⟩
        · rw [encGo_true T hne2, r2]; simp [encGo]
        · rw [msgGo_row hne2, r1]; rfl
    · cases hq
  | cons c r ih =>
    intro ps cur qs hq
    unfold fin at hq
    split at hq
    · obtain ⟨t, e, ht⟩ := ih _ _ _ hq
      refine ⟨t, e, fun m hm => ?_⟩
      obtain ⟨h1, h2⟩ := ht m hm
      exact ⟨by rw [h1]; simp, h2⟩
    · split at hq
      · next hc =>
        simp only [Bool.and_eq_true, Bool.or_eq_true, beq_iff_eq] at hc
        have hne : cur ≠ [47] := by intro e; rw [e] at hc; exact absurd hc.1.2 (by decide)
        obtain ⟨t, e, ht⟩ := ih _ _ _ hq
        refine ⟨cur :: ((if (c == 47) = true then [[47]] else []) ++ t), by rw [e]; simp, fun m hm => ?_⟩
        simp only [decP, if_neg hne] at hm
        cases hp : place T cur with
        | none => rw [hp] at hm; simp at hm
        | some i =>
          rw [hp] at hm
          obtain ⟨r1, r2⟩ := row hp
          have hne2 := inRow_ne r1
          rcases hc.1.1 with h3 | h3
          · subst h3
            have e0 : ((32 : UInt8) == 47) = false := by decide
            simp only [e0, Bool.false_eq_true, if_false, List.nil_append] at hm ⊢
            cases hd : decP T t with
            | none => rw [hd] at hm; simp at hm
            | some m2 =>
              rw [hd] at hm
              simp only [Option.map_some, Option.some.injEq] at hm
              subst hm
              obtain ⟨g1, g2, g3⟩ := ht m2 hd
              obtain ⟨f1, f2⟩ := first g2
              refine ⟨?_, ?_, by simp [g3]⟩
              · rw [encGo_true T hne2, r2, f1, g1]; simp
              · rw [msgGo_row hne2, r1, f2]; rfl
          · subst h3
            simp only [beq_self_eq_true, if_true, List.cons_append, List.nil_append, decP] at hm ⊢
            cases hd : decP T t with
            | none => rw [hd] at hm; simp at hm
            | some m2 =>
              rw [hd] at hm
              simp only [Option.map_some, Option.some.injEq] at hm
              subst hm
              obtain ⟨g1, g2, g3⟩ := ht m2 hd
              refine ⟨?_, ?_, by simp [g3]⟩
              · rw [encGo_true T hne2, r2, encGo_space, g1]; simp
              · rw [msgGo_row hne2, r1, msgGo_space, g2]; rfl
      · cases hq

theorem enc_dec {T : List Bs} (h : tableL T = true) {s m : Bs} (hd : decL T s = some m) : msgL T.length m = true ∧ encL T m = s := by
  unfold decL at hd
  cases hp : pieces s with
  | none => rw [hp] at hd; cases hd
  | some ps =>
    rw [hp] at hd
    simp only at hd
    unfold pieces at hp
    split at hp
    · next h0 =>
      cases hp; cases hd; subst h0
      exact ⟨rfl, rfl⟩
    · obtain ⟨t, e, ht⟩ := fin_back h s [] [] ps hp
      have hl := (fin_len s [] [] ps hp).2
      simp only [List.nil_append] at e
      subst e
      obtain ⟨g1, g2, g3⟩ := ht m hd
      refine ⟨?_, g1⟩
      simp only [msgL, g2, Bool.or_true, Bool.and_true, decide_eq_true_eq]
      omega
end Go.Proofs.Ythkafalpjokfeaa
