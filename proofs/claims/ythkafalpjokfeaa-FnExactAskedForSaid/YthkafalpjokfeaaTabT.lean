/-
  Plain facts on times, counts, bare texts, turned and changed tables. No program. Used by the claims on chapter 2.
-/
import Derived.Test.YthkafalpjokfeaaTabL
import Derived.Test.YthkafalpjokfeaaSplitL
namespace Go.Proofs.Ythkafalpjokfeaa

def ba (l : Bs) : ByteArray := ⟨l.toArray⟩
def bl (s : ByteArray) : Bs := s.data.toList
theorem bl_ba (l : Bs) : bl (ba l) = l := by simp [bl, ba]
theorem ba_bl (s : ByteArray) : ba (bl s) = s := by apply ByteArray.ext; simp [bl, ba]
theorem bl_len (s : ByteArray) : (bl s).length = s.size := by simp [bl]
theorem bl_inj {s t : ByteArray} (h : bl s = bl t) : s = t := by rw [← ba_bl s, ← ba_bl t, h]
theorem ba_size (l : Bs) : (ba l).size = l.length := by rw [← bl_len, bl_ba]
theorem map_bl_inj {xs ys : List ByteArray} (h : xs.map bl = ys.map bl) : xs = ys := by
  have e : ∀ zs : List ByteArray, (zs.map bl).map ba = zs := fun zs => by rw [List.map_map]; exact (List.map_congr_left fun x _ => ba_bl x).trans (List.map_id zs)
  rw [← e xs, h, e]
theorem map_ba_bl (l : List Bs) : (l.map ba).map bl = l := by rw [List.map_map]; exact (List.map_congr_left fun x _ => bl_ba x).trans (List.map_id l)
theorem map_bl_ba (l : List ByteArray) : (l.map bl).map ba = l := by rw [List.map_map]; exact (List.map_congr_left fun x _ => ba_bl x).trans (List.map_id l)

/-! ### Splitting -/
theorem splitL_snoc (b c : UInt8) : ∀ (l : Bs) (A : List Bs) (y : Bs), splitL b l = A ++ [y] → splitL b (l ++ [c]) = if c = b then A ++ [y, []] else A ++ [y ++ [c]] := by
  intro l
  induction l with
  | nil =>
    intro A y h
    simp only [splitL] at h
    obtain ⟨rfl, rfl⟩ : A = [] ∧ y = [] := by
      cases A with
      | nil => simp at h; exact ⟨rfl, h⟩
      | cons a A => simp at h
    by_cases hc : c = b <;> simp [splitL, hc]
  | cons d l ih =>
    intro A y h
    rw [List.cons_append]
    by_cases hd : d = b
    · subst hd
      rw [splitL_hit] at h ⊢
      cases A with
      | nil => simp at h; exact absurd h.2 (splitL_ne _ _)
      | cons a A =>
        simp only [List.cons_append, List.cons.injEq] at h
        obtain ⟨rfl, h⟩ := h
        rw [ih A y h]
        split <;> simp
    · obtain ⟨x, xs, e⟩ := splitL_cons b l
      rw [splitL_miss hd e] at h
      cases A with
      | nil =>
        simp only [List.nil_append, List.cons.injEq] at h
        obtain ⟨rfl, rfl⟩ := h
        have := ih [] x (by simpa using e)
        by_cases hc : c = b
        · rw [if_pos hc] at this ⊢
          rw [splitL_miss hd (by simpa using this)]; simp
        · rw [if_neg hc] at this ⊢
          rw [splitL_miss hd (by simpa using this)]; simp
      | cons a A =>
        simp only [List.cons_append, List.cons.injEq] at h
        obtain ⟨rfl, rfl⟩ := h
        have := ih (x :: A) y (by simpa using e)
        by_cases hc : c = b
        · rw [if_pos hc] at this ⊢
          rw [splitL_miss hd (by simpa using this)]; simp
        · rw [if_neg hc] at this ⊢
          rw [splitL_miss hd (by simpa using this)]; simp

theorem cutAt_splitL (s : ByteArray) (b : UInt8) (k : Nat) (hk : k ≤ s.size) : splitL b ((bl s).take k) = (cutAt s b k).1.map bl ++ [((bl s).take k).drop (cutAt s b k).2] := by
  induction k with
  | zero => simp [splitL, cutAt]
  | succ k ih =>
    have ih := ih (by omega)
    have hl := (cutAt_le s b k).1
    obtain ⟨c, hc⟩ : ∃ c, (bl s)[k]? = some c := ⟨_, List.getElem?_eq_getElem (by rw [bl_len]; omega)⟩
    rw [List.take_add_one, hc, Option.toList_some, splitL_snoc b c _ _ _ ih]
    have hlen : ((bl s).take k).length = k := by rw [List.length_take, bl_len]; omega
    by_cases h : c = b
    · subst h
      rw [if_pos rfl, cutAt_hit s c k hc]
      simp only [List.map_append, List.map_cons, List.map_nil]
      have e1 : bl (s.extract (cutAt s c k).2 k) = ((bl s).take k).drop (cutAt s c k).2 := ext_list s _ _
      have e2 : ((bl s).take k ++ [c]).drop (k + 1) = [] := List.drop_of_length_le (by rw [List.length_append, hlen]; simp)
      rw [e1, e2]
      simp
    · rw [if_neg h, cutAt_miss s b k (by intro e; exact h (Option.some.inj (hc.symm.trans e)))]
      rw [List.drop_append, hlen, show (cutAt s b k).2 - k = 0 by omega]
      simp
theorem splitS_L (s : ByteArray) (b : UInt8) : (splitS s b).map bl = splitL b (bl s) := by
  have := cutAt_splitL s b s.size (Nat.le_refl _)
  have e : (bl s).take s.size = bl s := List.take_of_length_le (by rw [bl_len]; exact Nat.le_refl _)
  rw [e] at this
  rw [this]
  unfold splitS
  have e1 : bl (s.extract (cutAt s b s.size).2 s.size) = ((bl s).take s.size).drop (cutAt s b s.size).2 := ext_list s _ _
  simp [e1, e]

theorem splitL_none {b : UInt8} : ∀ {x : Bs}, b ∉ x → splitL b x = [x]
  | [], _ => rfl
  | c :: x, h => by
    have h1 : c ≠ b := by intro e; subst e; exact h (by simp)
    exact splitL_miss h1 (splitL_none (x := x) (by intro e; exact h (by simp [e])))
theorem splitL_app {b : UInt8} : ∀ {x : Bs} (r : Bs), b ∉ x → splitL b (x ++ b :: r) = x :: splitL b r
  | [], r, _ => splitL_hit b r
  | c :: x, r, h => by
    have h1 : c ≠ b := by intro e; subst e; exact h (by simp)
    rw [List.cons_append, splitL_miss h1 (splitL_app (x := x) r (by intro e; exact h (by simp [e])))]
theorem split_join {b : UInt8} : ∀ (xs : List Bs), xs ≠ [] → (∀ x ∈ xs, b ∉ x) → splitL b (Lib.join xs [b]) = xs
  | [], h, _ => absurd rfl h
  | [x], _, h => by rw [Lib.join_one]; exact splitL_none (h x (by simp))
  | x :: y :: r, _, h => by
    rw [join_cons2, splitL_app _ (h x (by simp)), split_join (y :: r) (by simp) (fun z hz => h z (by simp at hz ⊢; exact .inr hz))]

/-! ### Times -/
def sg (c : UInt8) : Nat := if c = 46 then 1 else if c = 45 then 3 else if c = 47 then 7 else 3
def sgm (c : UInt8) : Nat := if c = 45 then 3 else 1
def tmGo : Bool → Bs → Nat
  | _, [] => 0
  | b, c :: r => (if b && isMk c then 1 else 0) + sg c + tmGo (isMk c) r
def tml (x : Bs) : Nat := (x.length - 1) + (x.map sgm).sum
def tmW (w : List Bs) : Nat := (w.map tml).sum + 3 * (w.length - 1)
def tmWs (ws : List (List Bs)) : Nat := (ws.map tmW).sum + 7 * (ws.length - 1)

theorem sg_mark {c : UInt8} (h : isMk c = true) : sg c = sgm c := by
  simp only [isMk, Bool.or_eq_true, beq_iff_eq] at h
  rcases h with rfl | rfl <;> rfl
theorem tml_snoc (x : Bs) (c : UInt8) : tml (x ++ [c]) = tml x + (if x = [] then 0 else 1) + sgm c := by
  unfold tml
  cases x with
  | nil => simp
  | cons d x => simp; omega
theorem tmGo_words (r : Bs) : ∀ cur : Bs, allMk (glue cur (wordsL r)) = true → tmGo (!cur.isEmpty) r + tml cur = tmWs (glue cur (wordsL r)) := by
  induction r with
  | nil => intro cur h; simp [tmGo, wordsL_nil, glue, tmWs, tmW]
  | cons c r ih =>
    intro cur h
    obtain ⟨x, xs, ws, e⟩ := wordsL_cons r
    by_cases hm : isMk c = true
    · have h1 : c ≠ 47 := by intro h; subst h; exact absurd hm (by decide)
      have h2 : c ≠ 32 := by intro h; subst h; exact absurd hm (by decide)
      have eg : glue (cur ++ [c]) ((x :: xs) :: ws) = glue cur (((c :: x) :: xs) :: ws) := by simp [glue]
      rw [wordsL_sign h1 h2 e] at h ⊢
      have := ih (cur ++ [c]) (by rw [e, eg]; exact h)
      rw [e, eg] at this
      rw [← this, tmGo, hm, sg_mark hm, tml_snoc]
      cases cur <;> simp <;> omega
    · by_cases h2 : c = 32
      · subst h2
        rw [wordsL_gap e] at h ⊢
        simp only [glue, List.append_nil] at h ⊢
        have h3 : allMk (glue [] (wordsL r)) = true := by
          rw [e]; simp only [glue, List.nil_append]
          simp only [allMk, List.all_cons, Bool.and_eq_true] at h ⊢
          exact ⟨h.1.2, h.2⟩
        have := ih [] h3
        rw [e] at this
        simp only [glue, List.nil_append, tml, tmWs, tmW, List.map_cons, List.sum_cons, List.length_cons] at this ⊢
        have e0 : isMk 32 = false := by decide
        simp only [tmGo, e0, Bool.and_false]
        simp [sg] at this ⊢
        omega
      · by_cases h1 : c = 47
        · subst h1
          rw [wordsL_word] at h ⊢
          simp only [glue, List.append_nil] at h ⊢
          have h3 : allMk (glue [] (wordsL r)) = true := by
            rw [e] at h ⊢; simp only [glue, List.nil_append]
            simp only [allMk, List.all_cons, Bool.and_eq_true] at h ⊢
            exact h.2
          have := ih [] h3
          rw [e] at this ⊢
          simp only [glue, List.nil_append, tml, tmWs, tmW, List.map_cons, List.sum_cons, List.length_cons] at this ⊢
          have e0 : isMk 47 = false := by decide
          simp only [tmGo, e0, Bool.and_false]
          simp [sg] at this ⊢
          omega
        · exfalso
          rw [wordsL_sign h1 h2 e] at h
          simp only [glue, allMk, List.all_cons, Bool.and_eq_true] at h
          have := h.1.1
          unfold marksL at this
          simp only [Bool.and_eq_true, List.all_append, List.all_cons] at this
          exact hm this.2.2.1
theorem tm_words {s : Bs} (h : allMk (wordsL s) = true) : tmGo false s = tmWs (wordsL s) := by
  obtain ⟨x, xs, ws, e⟩ := wordsL_cons s
  have hg : glue [] (wordsL s) = wordsL s := by rw [e]; rfl
  have := tmGo_words s [] (by rw [hg]; exact h)
  rw [hg] at this
  simpa [tml] using this
theorem tm_marks {x : Bs} (h : marksL x = true) : tmGo false x = tml x := by
  have hw : wordsL x = [[x]] := by
    have h1 : ∀ b : UInt8, isMk b = false → b ∉ x := fun b hb hm => by
      have := List.all_eq_true.1 (marks_all h) b hm
      rw [hb] at this; cases this
    unfold wordsL
    rw [splitL_none (h1 47 (by decide))]
    simp [splitL_none (h1 32 (by decide))]
  have := tm_words (s := x) (by rw [hw]; simp [allMk, h])
  rw [this, hw]
  simp [tmWs, tmW]
theorem pieces_marks {x : Bs} (h : marksL x = true) : pieces x = some [x] := by
  have hne : x ≠ [] := by intro e; subst e; exact absurd h (by decide)
  unfold pieces
  rw [if_neg hne]
  have := fin_marks x [] [] [] (marks_all h)
  rw [List.append_nil] at this
  rw [this]
  simp [fin, h]
theorem tml_odd {x : Bs} (h : x ≠ []) : tml x % 2 = 1 := by
  have e : ∀ y : Bs, (y.map sgm).sum % 2 = y.length % 2 := by
    intro y
    induction y with
    | nil => rfl
    | cons c y ih =>
      simp only [List.map_cons, List.sum_cons, List.length_cons]
      have : sgm c % 2 = 1 := by unfold sgm; split <;> rfl
      omega
  have := e x
  have h1 : 1 ≤ x.length := by cases x with | nil => exact absurd rfl h | cons _ _ => simp
  unfold tml
  omega
theorem tm_least (s : Bs) : ∀ b, s.count 46 + 3 * s.count 45 ≤ tmGo b s := by
  induction s with
  | nil => intro b; simp [tmGo]
  | cons c s ih =>
    intro b
    have := ih (isMk c)
    rw [tmGo]
    by_cases h1 : c = 46
    · subst h1; simp [sg] at this ⊢; omega
    · by_cases h2 : c = 45
      · subst h2; simp [sg] at this ⊢; omega
      · simp only [List.count_cons, beq_eq_false_iff_ne.2 h1, beq_eq_false_iff_ne.2 h2]; simp; omega
theorem tm_le (s : Bs) : ∀ b, tmGo b s ≤ 8 * s.length := by
  induction s with
  | nil => intro b; simp [tmGo]
  | cons c s ih =>
    intro b
    have := ih (isMk c)
    have h1 : sg c ≤ 7 := by
      unfold sg
      repeat' split
      all_goals omega
    have h2 : (if b && isMk c then 1 else 0) ≤ 1 := by split <;> omega
    rw [tmGo, List.length_cons]; omega

/-! ### Bare texts and counts -/
def bareL (T : List Bs) (m : Bs) : Bs := m.flatMap (fun c => if c = 32 then [] else look T c)
theorem bare_enc {T : List Bs} (h : tableL T = true) : ∀ (m : Bs) (b b2 : Bool), msgGo T.length b2 m = true → (encGo T b m).filter isMk = bareL T m := by
  intro m
  induction m with
  | nil => intro _ _ _; rfl
  | cons c r ih =>
    intro b b2 hm
    by_cases hc : c = 32
    · subst hc
      rw [msgGo_space, Bool.and_eq_true] at hm
      rw [encGo_space, List.filter_cons_of_neg (by decide), ih _ _ hm.2]
      simp [bareL]
    · rw [msgGo_row hc, Bool.and_eq_true] at hm
      obtain ⟨_, _, _, _, hx⟩ := look_marks h hm.1
      have e1 : (look T c).filter isMk = look T c := List.filter_eq_self.2 (List.all_eq_true.1 (marks_all hx))
      rw [encGo, if_neg hc, List.filter_append, List.filter_append, e1, ih _ _ hm.2]
      cases b <;> simp [bareL, hc, isMk]
theorem bareL_enc {T : List Bs} (h : tableL T = true) {m : Bs} (hm : msgL T.length m = true) : (encL T m).filter isMk = bareL T m := by
  simp only [msgL, Bool.and_eq_true, Bool.or_eq_true] at hm
  rcases hm.2 with h0 | h0
  · have : m = [] := by simpa using h0
    subst this; rfl
  · exact bare_enc h m true true h0
theorem count_bare {T : List Bs} (h : tableL T = true) {m : Bs} (hm : msgL T.length m = true) {b : UInt8} (hb : isMk b = true) : (bareL T m).count b = (encL T m).count b := by
  rw [← bareL_enc h hm, List.count_filter hb]
theorem bare_marks {T : List Bs} (h : tableL T = true) {m : Bs} (hm : msgL T.length m = true) : ∀ c ∈ bareL T m, isMk c = true := by
  rw [← bareL_enc h hm]
  intro c hc
  exact (List.mem_filter.1 hc).2
theorem count_two : ∀ {l : Bs}, (∀ c ∈ l, isMk c = true) → l.length = l.count 46 + l.count 45
  | [], _ => rfl
  | c :: l, h => by
    have ih := count_two (l := l) (fun d hd => h d (by simp [hd]))
    have := h c (by simp)
    simp only [isMk, Bool.or_eq_true, beq_iff_eq] at this
    rcases this with rfl | rfl
    · simp at ih ⊢; omega
    · simp at ih ⊢; omega
theorem bare_len {T : List Bs} (h : tableL T = true) {m : Bs} (hm : msgL T.length m = true) : (bareL T m).length = (encL T m).count 46 + (encL T m).count 45 := by
  rw [count_two (bare_marks h hm), count_bare h hm (by decide), count_bare h hm (by decide)]
theorem enc_len {T : List Bs} (h : tableL T = true) {m : Bs} (hm : msgL T.length m = true) : (encL T m).length ≤ 71 := by
  have := pieces_enc h hm
  unfold pieces at this
  split at this
  · next e => rw [e]; simp
  · have := (fin_len _ _ _ _ this).1
    simp at this; omega

/-! ### Tables that are turned or changed -/
def oppC (c : UInt8) : UInt8 := if c = 46 then 45 else 46
def oppL (x : Bs) : Bs := x.map oppC
theorem oppC_mk (c : UInt8) : isMk (oppC c) = true := by unfold oppC; split <;> decide
theorem oppC_two {c : UInt8} (h : isMk c = true) : oppC (oppC c) = c := by
  simp only [isMk, Bool.or_eq_true, beq_iff_eq] at h
  rcases h with rfl | rfl <;> rfl
theorem marks_opp {x : Bs} (h : marksL x = true) : marksL (oppL x) = true := by
  simp only [marksL, oppL, List.length_map, Bool.and_eq_true] at h ⊢
  refine ⟨h.1, List.all_eq_true.2 fun c hc => ?_⟩
  obtain ⟨d, _, rfl⟩ := List.mem_map.1 hc
  exact oppC_mk d
theorem opp_two {x : Bs} (h : marksL x = true) : oppL (oppL x) = x := by
  unfold oppL
  rw [List.map_map]
  exact (List.map_congr_left fun c hc => oppC_two (List.all_eq_true.1 (marks_all h) c hc)).trans (List.map_id x)
theorem marks_back {x : Bs} (h : marksL x = true) : marksL x.reverse = true := by
  simp only [marksL, List.length_reverse, List.all_reverse] at h ⊢
  exact h
theorem opp_back (x : Bs) : oppL x.reverse = (oppL x).reverse := by simp [oppL]
theorem tableL_iff {T : List Bs} : tableL T = true ↔ (1 ≤ T.length ∧ T.length ≤ 10) ∧ (∀ x ∈ T, marksL x = true) ∧ T.Nodup := by
  simp only [tableL, Bool.and_eq_true, decide_eq_true_eq, List.all_eq_true]
  constructor
  · rintro ⟨⟨h1, h2⟩, h3⟩; exact ⟨h1, h2, h3⟩
  · rintro ⟨h1, h2, h3⟩; exact ⟨⟨h1, h2⟩, h3⟩
theorem table_map {T : List Bs} (h : tableL T = true) (f : Bs → Bs) (hf : ∀ x, marksL x = true → marksL (f x) = true) (hi : ∀ x ∈ T, ∀ y ∈ T, f x = f y → x = y) : tableL (T.map f) = true := by
  rw [tableL_iff] at h ⊢
  obtain ⟨h1, h2, h3⟩ := h
  refine ⟨by simpa using h1, fun x hx => ?_, ?_⟩
  · obtain ⟨y, hy, rfl⟩ := List.mem_map.1 hx
    exact hf y (h2 y hy)
  · have h4 : T.Pairwise (fun a b => a ≠ b) := h3
    exact List.pairwise_map.2 (h4.imp_of_mem fun {a b} ha hb hne e => hne (hi a ha b hb e))
theorem all_marks {T : List Bs} (h : tableL T = true) : ∀ x ∈ T, marksL x = true := (tableL_iff.1 h).2.1
theorem table_opp {T : List Bs} (h : tableL T = true) : tableL (T.map oppL) = true :=
  table_map h oppL (fun _ => marks_opp) fun x hx y hy e => by
    have := congrArg oppL e
    rwa [opp_two (all_marks h x hx), opp_two (all_marks h y hy)] at this
theorem table_back {T : List Bs} (h : tableL T = true) : tableL (T.map List.reverse) = true :=
  table_map h List.reverse (fun _ => marks_back) fun x hx y hy e => by simpa using e
theorem opp_opp {T : List Bs} (h : tableL T = true) : (T.map oppL).map oppL = T := by
  rw [List.map_map]
  exact (List.map_congr_left fun x hx => opp_two (all_marks h x hx)).trans (List.map_id T)
theorem back_back (T : List Bs) : (T.map List.reverse).map List.reverse = T := by
  rw [List.map_map]
  exact (List.map_congr_left fun x _ => List.reverse_reverse x).trans (List.map_id T)
theorem back_opp (T : List Bs) : (T.map oppL).map List.reverse = (T.map List.reverse).map oppL := by
  rw [List.map_map, List.map_map]
  exact List.map_congr_left fun x _ => (opp_back x).symm

/-- Two letters have each other's marks. -/
def swapL (T : List Bs) (i j : Nat) : List Bs := (T.set i (T.getD j [])).set j (T.getD i [])
def sw (i j k : Nat) : Nat := if k = j then i else if k = i then j else k
theorem swapL_at (T : List Bs) {i j : Nat} (hi : i < T.length) (hj : j < T.length) (k : Nat) : (swapL T i j)[k]? = T[sw i j k]? := by
  unfold swapL sw
  rw [List.getElem?_set, List.length_set, List.getElem?_set]
  by_cases h1 : k = j
  · subst h1
    rw [if_pos rfl, if_pos hj, if_pos rfl, List.getD_eq_getElem?_getD, List.getElem?_eq_getElem hi]; rfl
  · rw [if_neg (fun e => h1 e.symm), if_neg h1]
    by_cases h2 : k = i
    · subst h2
      rw [if_pos rfl, if_pos hi, if_pos rfl, List.getD_eq_getElem?_getD, List.getElem?_eq_getElem hj]; rfl
    · rw [if_neg (fun e => h2 e.symm), if_neg h2]
theorem swapL_len (T : List Bs) (i j : Nat) : (swapL T i j).length = T.length := by simp [swapL]
theorem sw_sw (i j k : Nat) : sw i j (sw i j k) = k := by
  unfold sw
  repeat' split
  all_goals omega
theorem sw_lt {i j k n : Nat} (hi : i < n) (hj : j < n) (hk : k < n) : sw i j k < n := by
  unfold sw
  split
  · exact hi
  · split
    · exact hj
    · exact hk
theorem swapL_two (T : List Bs) {i j : Nat} (hi : i < T.length) (hj : j < T.length) : swapL (swapL T i j) i j = T := by
  apply List.ext_getElem?
  intro k
  rw [swapL_at _ (by rw [swapL_len]; exact hi) (by rw [swapL_len]; exact hj), swapL_at T hi hj, sw_sw]
theorem table_swap {T : List Bs} (h : tableL T = true) {i j : Nat} (hi : i < T.length) (hj : j < T.length) : tableL (swapL T i j) = true := by
  rw [tableL_iff] at h ⊢
  obtain ⟨h1, h2, h3⟩ := h
  refine ⟨by rw [swapL_len]; exact h1, fun x hx => ?_, ?_⟩
  · obtain ⟨k, hk⟩ := List.mem_iff_getElem?.1 hx
    rw [swapL_at T hi hj] at hk
    exact h2 x (List.mem_of_getElem? hk)
  · refine List.pairwise_iff_getElem.2 fun a b ha hb hab e => ?_
    rw [swapL_len] at ha hb
    have e1 : (swapL T i j)[a]? = (swapL T i j)[b]? := by
      rw [List.getElem?_eq_getElem (by rw [swapL_len]; exact ha), List.getElem?_eq_getElem (by rw [swapL_len]; exact hb), e]
    rw [swapL_at T hi hj, swapL_at T hi hj] at e1
    have e2 := (List.getElem?_inj (sw_lt hi hj ha) h3).1 e1
    have e3 := congrArg (sw i j) e2
    rw [sw_sw, sw_sw] at e3
    omega
theorem place_add {T : List Bs} {x : Bs} (h : tableL (T ++ [x]) = true) : place T x = none ∧ place (T ++ [x]) x = some T.length := by
  have hn := nodup_of h
  refine ⟨place_none.2 fun hm => ?_, place_at hn (by simp)⟩
  rw [List.nodup_append] at hn
  exact hn.2.2 x hm x (by simp) rfl
theorem no_comma {T : List Bs} (h : tableL T = true) : ∀ x ∈ T, (44 : UInt8) ∉ x := fun x hx hm => by
  have := List.all_eq_true.1 (marks_all (all_marks h x hx)) 44 hm
  exact absurd this (by decide)
theorem parse_text {T : List Bs} (h : tableL T = true) : splitL 44 (Lib.join T [44]) = T :=
  split_join T (by intro e; subst e; exact absurd (len_of h).1 (by decide)) (no_comma h)
/-- A text whose parts are a table is no longer than 60. -/
theorem len_split (b : UInt8) : ∀ s : Bs, s.length + 1 = ((splitL b s).map (fun x => x.length + 1)).sum
  | [] => rfl
  | c :: r => by
    have ih := len_split b r
    by_cases h : c = b
    · subst h; rw [splitL_hit]; simp at ih ⊢; omega
    · obtain ⟨x, xs, e⟩ := splitL_cons b r
      rw [splitL_miss h e]
      rw [e] at ih
      simp at ih ⊢; omega
theorem sum_le (n : Nat) : ∀ xs : List Bs, (∀ x ∈ xs, x.length ≤ n) → (xs.map (fun x => x.length + 1)).sum ≤ (n + 1) * xs.length
  | [], _ => by simp
  | x :: xs, h => by
    have ih := sum_le n xs (fun y hy => h y (by simp [hy]))
    have := h x (by simp)
    simp only [List.map_cons, List.sum_cons, List.length_cons, Nat.mul_succ]
    omega
theorem parse_short {s : Bs} (h : tableL (splitL 44 s) = true) : s.length ≤ 59 := by
  have h1 := len_split 44 s
  have h2 := sum_le 5 (splitL 44 s) (fun x hx => by
    have := all_marks h x hx
    simp only [marksL, Bool.and_eq_true, decide_eq_true_eq] at this
    exact this.1.2)
  have := (len_of h).2
  omega
end Go.Proofs.Ythkafalpjokfeaa
