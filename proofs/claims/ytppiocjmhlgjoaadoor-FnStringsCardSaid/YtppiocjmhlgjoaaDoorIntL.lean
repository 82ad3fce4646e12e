/-
  Plain mathematics of decimal numerals of at most six digits: no program. Used by the claims on ParseInt and FnStrings.
-/
import Derived.Lib.AtoiAll
import Derived.Lib.ItoaNum
namespace Go.Proofs.YtppiocjmhlgjoaaDoor

theorem ldec_small {n : Nat} (h : n < 10) : Lib.decDigits n = [UInt8.ofNat (48 + n)] := by rw [Lib.decDigits, dif_pos h]
theorem ldec_big {n : Nat} (h : ¬ n < 10) : Lib.decDigits n = Lib.decDigits (n / 10) ++ [UInt8.ofNat (48 + n % 10)] := by rw [Lib.decDigits, dif_neg h]
theorem dig_nat {d : Nat} (h : d < 10) : (UInt8.ofNat (48 + d)).toNat = 48 + d := by
  rw [UInt8.toNat_ofNat']; omega

/-- What digits spell. -/
def dv (l : List UInt8) : Nat := l.foldl (fun n c => 10 * n + (c.toNat - 48)) 0
theorem dv_snoc (l : List UInt8) (c : UInt8) : dv (l ++ [c]) = 10 * dv l + (c.toNat - 48) := by simp [dv]
theorem dv_dec (u : Nat) : dv (Lib.decDigits u) = u := by
  induction u using Nat.strongRecOn with
  | ind u ih =>
    by_cases h : u < 10
    · rw [ldec_small h]; simp only [dv, List.foldl_cons, List.foldl_nil]; rw [dig_nat h]; omega
    · rw [ldec_big h, dv_snoc, ih (u / 10) (by omega), dig_nat (by omega)]; omega
def isDig (c : UInt8) : Prop := 48 ≤ c.toNat ∧ c.toNat ≤ 57
theorem dec_digs (u : Nat) : ∀ c ∈ Lib.decDigits u, isDig c := by
  induction u using Nat.strongRecOn with
  | ind u ih =>
    by_cases h : u < 10
    · rw [ldec_small h]; intro c hc; simp only [List.mem_singleton] at hc; subst hc; unfold isDig; rw [dig_nat h]; omega
    · rw [ldec_big h]; intro c hc
      rcases List.mem_append.1 hc with hc | hc
      · exact ih (u / 10) (by omega) c hc
      · simp only [List.mem_singleton] at hc; subst hc; unfold isDig; rw [dig_nat (by omega)]; omega
theorem dec_ne (u : Nat) : Lib.decDigits u ≠ [] := by
  by_cases h : u < 10
  · rw [ldec_small h]; simp
  · rw [ldec_big h]; simp
theorem ldec_len (k : Nat) : ∀ u : Nat, u < 10 ^ (k + 1) → (Lib.decDigits u).length ≤ k + 1 := by
  induction k with
  | zero => intro u h; rw [ldec_small (by simpa using h)]; simp
  | succ k ih =>
    intro u h
    by_cases hu : u < 10
    · rw [ldec_small hu]; simp
    · rw [ldec_big hu]
      have := ih (u / 10) (by rw [Nat.pow_succ] at h; omega)
      simp; omega
theorem ldec_len6 {u : Nat} (h : u ≤ 999999) : (Lib.decDigits u).length ≤ 6 := ldec_len 5 u (by omega)
theorem dv_bd (k : Nat) : ∀ l : List UInt8, (∀ c ∈ l, isDig c) → l.length = k → dv l < 10 ^ k := by
  induction k with
  | zero => intro l _ h; obtain rfl := List.length_eq_zero_iff.1 h; decide
  | succ k ih =>
    intro l hd hl
    have hne : l ≠ [] := by rintro rfl; simp at hl
    obtain ⟨m, c, rfl⟩ : ∃ m c, l = m ++ [c] := ⟨l.dropLast, l.getLast hne, (List.dropLast_concat_getLast hne).symm⟩
    have h1 := ih m (fun x hx => hd x (by simp [hx])) (by simpa using hl)
    have h2 := hd c (by simp)
    unfold isDig at h2
    rw [dv_snoc, Nat.pow_succ]; omega
theorem dv_bd6 (l : List UInt8) (hd : ∀ c ∈ l, isDig c) (hl : l.length ≤ 6) : dv l ≤ 999999 := by
  have h := dv_bd l.length l hd rfl
  have : 10 ^ l.length ≤ 10 ^ 6 := Nat.pow_le_pow_right (by omega) hl
  omega

theorem parse_snoc : ∀ (l : List UInt8) (acc u : Nat) (c : UInt8), Lib.parseUint10 acc l = .ok u → isDig c → u ≤ 99999 → Lib.parseUint10 acc (l ++ [c]) = .ok (u * 10 + (c.toNat - 48))
  | [], acc, u, c, h, hc, hu => by
    simp only [Lib.parseUint10, Lib.NumEnd.ok.injEq] at h
    subst h
    unfold isDig at hc
    simp only [List.nil_append, Lib.parseUint10]
    rw [if_pos hc, if_neg (by omega), if_neg (by omega)]
  | a :: r, acc, u, c, h, hc, hu => by
    simp only [List.cons_append, Lib.parseUint10] at h ⊢
    split at h
    · rename_i h1
      rw [if_pos h1]
      split at h
      · cases h
      · rename_i h2
        rw [if_neg h2]
        split at h
        · cases h
        · rename_i h3
          rw [if_neg h3]
          exact parse_snoc r _ u c h hc hu
    · cases h
theorem parse_dec (u : Nat) (hu : u ≤ 999999) : Lib.parseUint10 0 (Lib.decDigits u) = .ok u := by
  induction u using Nat.strongRecOn with
  | ind u ih =>
    by_cases h : u < 10
    · rw [ldec_small h]
      have := parse_snoc [] 0 0 (UInt8.ofNat (48 + u)) rfl (by unfold isDig; rw [dig_nat h]; omega) (by omega)
      rw [dig_nat h] at this
      simpa using this
    · rw [ldec_big h]
      have := parse_snoc _ 0 (u / 10) (UInt8.ofNat (48 + u % 10)) (ih (u / 10) (by omega) (by omega)) (by unfold isDig; rw [dig_nat (by omega)]; omega) (by omega)
      rw [dig_nat (by omega)] at this
      rw [this]; congr 1; omega

/-- A number that FormatInt takes. -/
def InDec (n : Int) : Prop := -999999 ≤ n ∧ n ≤ 999999

theorem itoa_pos (m : Nat) : Lib.itoa (m : Int) = Lib.decDigits m := by unfold Lib.itoa; rw [if_neg (by omega)]; congr 1
theorem itoa_min (m : Nat) (h : 1 ≤ m) : Lib.itoa (-(m : Int)) = 45 :: Lib.decDigits m := by unfold Lib.itoa; rw [if_pos (by omega)]; congr 2; omega

theorem atoi_itoa (n : Int) (h : InDec n) : Lib.atoiAll (Lib.itoa n) = .ok n := by
  obtain ⟨h0, h1⟩ := h
  by_cases hn : n < 0
  · obtain ⟨m, rfl⟩ : ∃ m : Nat, n = -(m : Int) := ⟨n.natAbs, by omega⟩
    rw [itoa_min m (by omega)]
    have hp : Lib.parseMag (Lib.decDigits m) = .ok m := by unfold Lib.parseMag; rw [if_neg (dec_ne m)]; exact parse_dec m (by omega)
    have e45 : (45 : UInt8).toNat = 45 := rfl
    simp only [Lib.atoiAll, e45, or_true, if_true, hp]
    rw [if_neg (by simp), if_neg (by omega)]
  · obtain ⟨m, rfl⟩ : ∃ m : Nat, n = (m : Int) := ⟨n.toNat, by omega⟩
    rw [itoa_pos]
    have hp : Lib.parseMag (Lib.decDigits m) = .ok m := by unfold Lib.parseMag; rw [if_neg (dec_ne m)]; exact parse_dec m (by omega)
    have hd := dec_digs m
    cases hl : Lib.decDigits m with
    | nil => exact absurd hl (dec_ne m)
    | cons c r =>
      rw [hl] at hp hd
      have hc := hd c (by simp)
      unfold isDig at hc
      have e1 : ¬ (c.toNat = 43 ∨ c.toNat = 45) := by omega
      have e2 : ¬ c.toNat = 45 := by omega
      unfold Lib.atoiAll
      simp only []
      rw [if_neg e1, hp]
      simp only []
      rw [if_neg (by omega), if_neg (fun h => e2 h.1), if_neg e2]

theorem itoa_inj {a b : Int} (ha : InDec a) (hb : InDec b) (h : Lib.itoa a = Lib.itoa b) : a = b := by
  have := (atoi_itoa a ha).symm.trans ((congrArg _ h).trans (atoi_itoa b hb))
  injection this

/-- How reading a text as a number ends: 'some v' just where v is a number of FormatInt's whose numeral it is. -/
def Parsed (l : List UInt8) : Option Int → Prop
  | some v => InDec v ∧ Lib.itoa v = l
  | none => ∀ v, InDec v → Lib.itoa v ≠ l
theorem Parsed.same {l : List UInt8} {a b : Option Int} (ha : Parsed l a) (hb : Parsed l b) : a = b := by
  cases a with
  | none =>
    cases b with
    | none => rfl
    | some y => exact absurd hb.2 (ha y hb.1)
  | some x =>
    cases b with
    | none => exact absurd ha.2 (hb x ha.1)
    | some y => rw [itoa_inj ha.1 hb.1 (ha.2.trans hb.2.symm)]
end Go.Proofs.YtppiocjmhlgjoaaDoor
