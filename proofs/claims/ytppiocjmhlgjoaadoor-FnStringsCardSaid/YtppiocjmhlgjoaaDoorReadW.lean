/-
  Contract of the model's l1Read, and so of its ParseInt: it tells the number whose numeral the text is, and none otherwise. Used by the claims on ParseInt and FnStrings.
-/
import Derived.Test.YtppiocjmhlgjoaaDoorParseW
namespace Go.Proofs.YtppiocjmhlgjoaaDoor
open Go.RowKit Go.Sort
set_option linter.unusedVariables false

/-! ### Plain facts -/
theorem itoa_cases (v : Int) (hv : InDec v) : (∃ m : Nat, v = m ∧ m ≤ 999999 ∧ Lib.itoa v = Lib.decDigits m) ∨ (∃ m : Nat, 1 ≤ m ∧ v = -(m : Int) ∧ m ≤ 999999 ∧ Lib.itoa v = 45 :: Lib.decDigits m) := by
  unfold InDec at hv
  by_cases h : v < 0
  · refine .inr ⟨v.natAbs, by omega, by omega, by omega, ?_⟩
    have : v = -((v.natAbs : Nat) : Int) := by omega
    rw [this, itoa_min _ (by omega)]; simp
  · refine .inl ⟨v.toNat, by omega, by omega, ?_⟩
    have : v = ((v.toNat : Nat) : Int) := by omega
    rw [show Lib.decDigits v.toNat = Lib.itoa ((v.toNat : Nat) : Int) from (itoa_pos _).symm, ← this]
theorem dec_head {m : Nat} {c : UInt8} {r : List UInt8} (h : Lib.decDigits m = c :: r) : isDig c := dec_digs m c (by rw [h]; simp)
theorem not45 : ¬ isDig 45 := by unfold isDig; decide

theorem neg_len {tl : List UInt8} (h : tl.length = 0 ∨ 6 < tl.length) : Parsed (45 :: tl) none := fun v hv e => by
  rcases itoa_cases v hv with ⟨m, _, hm, h1⟩ | ⟨m, _, _, hm, h1⟩
  · exact not45 (dec_head (h1.symm.trans e))
  · have h2 := (List.cons.inj (h1.symm.trans e)).2
    have := ldec_len6 hm
    have h3 : (Lib.decDigits m).length ≠ 0 := fun h => dec_ne m (List.length_eq_zero_iff.1 h)
    rw [h2] at this h3
    omega
theorem neg_dig {tl : List UInt8} {c : UInt8} (h : c ∈ tl) (hc : ¬ isDig c) : Parsed (45 :: tl) none := fun v hv e => by
  rcases itoa_cases v hv with ⟨m, _, hm, h1⟩ | ⟨m, _, _, hm, h1⟩
  · exact not45 (dec_head (h1.symm.trans e))
  · have h2 := (List.cons.inj (h1.symm.trans e)).2
    rw [← h2] at h
    exact hc (dec_digs m c h)
theorem neg_val {tl : List UInt8} (h : Lib.itoa (-(dv tl : Int)) ≠ 45 :: tl) : Parsed (45 :: tl) none := fun v hv e => by
  rcases itoa_cases v hv with ⟨m, _, hm, h1⟩ | ⟨m, _, hv2, hm, h1⟩
  · exact not45 (dec_head (h1.symm.trans e))
  · have h2 := (List.cons.inj (h1.symm.trans e)).2
    rw [← h2, dv_dec, ← hv2, e, h2] at h
    exact h rfl
theorem pos_len {l : List UInt8} (hn : ∀ m : Nat, l ≠ 45 :: Lib.decDigits m) (h : l.length = 0 ∨ 6 < l.length) : Parsed l none := fun v hv e => by
  rcases itoa_cases v hv with ⟨m, _, hm, h1⟩ | ⟨m, _, _, hm, h1⟩
  · have h2 := h1.symm.trans e
    have := ldec_len6 hm
    have h3 : (Lib.decDigits m).length ≠ 0 := fun h => dec_ne m (List.length_eq_zero_iff.1 h)
    rw [h2] at this h3
    omega
  · exact hn m (e.symm.trans h1)
theorem pos_dig {l : List UInt8} {c : UInt8} (hn : ∀ m : Nat, l ≠ 45 :: Lib.decDigits m) (h : c ∈ l) (hc : ¬ isDig c) : Parsed l none := fun v hv e => by
  rcases itoa_cases v hv with ⟨m, _, hm, h1⟩ | ⟨m, _, _, hm, h1⟩
  · have h2 := h1.symm.trans e
    rw [← h2] at h
    exact hc (dec_digs m c h)
  · exact hn m (e.symm.trans h1)
theorem pos_val {l : List UInt8} (hn : ∀ m : Nat, l ≠ 45 :: Lib.decDigits m) (h : Lib.itoa (dv l : Int) ≠ l) : Parsed l none := fun v hv e => by
  rcases itoa_cases v hv with ⟨m, hv2, hm, h1⟩ | ⟨m, _, hv2, hm, h1⟩
  · have h2 := h1.symm.trans e
    rw [← h2, dv_dec, ← hv2, h1] at h
    exact h rfl
  · exact hn m (e.symm.trans h1)

/-- How l1Read ends. -/
def ReadPost (s : ByteArray) (w : World) (e : Ending) (w' : World) : Prop := ∃ r : Option Int, e = .returned (told r) ∧ Parsed s.data.toList r ∧ Below w.heap.size w w'
theorem read_none {s : ByteArray} {w w' : World} (h : Parsed s.data.toList none) (hb : Below w.heap.size w w') : ReadPost s w (.returned (.tuple #[.int .i64 0, .bool false])) w' := ⟨none, rfl, h, hb⟩
theorem read_some {s : ByteArray} {w w' : World} {v : Int} (h : InDec v) (hq : Lib.itoa v = s.data.toList) (hb : Below w.heap.size w w') : ReadPost s w (.returned (.tuple #[.int .i64 v, .bool true])) w' := ⟨some v, rfl, ⟨h, hq⟩, hb⟩

theorem ltake_snoc (s : ByteArray) (k : Nat) (h : k < s.size) : s.data.toList.take (k + 1) = s.data.toList.take k ++ [s[k]] := by
  rw [List.take_succ_eq_append_getElem (by simpa using h)]; rfl
theorem mem_at (s : ByteArray) (k : Nat) (h : k < s.size) : s[k] ∈ s.data.toList := by
  have : s[k] = s.data.toList[k]'(by simpa using h) := rfl
  rw [this]; exact List.getElem_mem _

/-- ONE ROUND MORE: what the loop knows at k + 1. -/
theorem round_next (t : ByteArray) (k : Nat) (h : k < t.size) (hd : ∀ c ∈ t.data.toList.take k, isDig c) (hc : isDig t[k]) :
    (∀ c ∈ t.data.toList.take (k + 1), isDig c) ∧ (dv (t.data.toList.take (k + 1)) : Int) = 10 * (dv (t.data.toList.take k) : Int) + ((t[k].toNat : Int) - 48) := by
  rw [ltake_snoc t k h]
  refine ⟨fun c hm => ?_, ?_⟩
  · rcases List.mem_append.1 hm with h1 | h1
    · exact hd c h1
    · simp only [List.mem_singleton] at h1; subst h1; exact hc
  · unfold isDig at hc
    rw [dv_snoc]; omega
theorem dv_take_bd (t : ByteArray) (k : Nat) (h6 : t.size ≤ 6) (hd : ∀ c ∈ t.data.toList.take k, isDig c) : dv (t.data.toList.take k) ≤ 999999 :=
  dv_bd6 _ hd (by have := List.length_take_le' k t.data.toList; have e : t.data.toList.length = t.size := by simp; 
                  omega)

set_option maxHeartbeats 1000000 in
theorem read_neg (s t : ByteArray) (h2 : 1 < s.size) (hc : (s[0].toNat : Int) = 45) (ht : s.extract 1 s.size = t) (htl : s.data.toList = 45 :: t.data.toList) (hm : s.size ≤ maxLen) (h6 : t.size ≤ 6) (w : World) :
    Calls Tryd.prog 29 #[.string s] w (ReadPost s w) := by
  have hts : s.size = t.size + 1 := by
    have := congrArg List.length htl
    simpa using this
  unfold maxLen at hm
  have HT := Lib.hid ht
  have HL := Lib.hid htl
  have HS := Lib.hid hts
  have h3 : t.size < s.size := by omega
  have h1 : 1 ≤ t.size := by omega
  clear ht htl hts
  go_enter Tryd.func29, Tryd.ntmps29
  go_wp2_with fail
  rw [HT.out]
  refine (in_yes _ _ _ (by omega) (by have := HS.out; omega) _).mono ?_
  rintro e w' ⟨rfl, rfl⟩
  go_wp2
  go_loop [5, 6] (fun n i => ∃ k : Nat, k ≤ t.size ∧ i = .int .i64 k ∧ n = .int .i64 (dv (t.data.toList.take k)) ∧ Hid (∀ c ∈ t.data.toList.take k, isDig c)) (fun _ i => t.size - (intOf i).toNat)
  case atStart => exact ⟨0, Nat.zero_le _, rfl, rfl, Lib.hid (by simp)⟩
  case round =>
    obtain ⟨k, hk, rfl, rfl, HD⟩ := hrel
    have hbd := dv_take_bd t k h6 HD.out
    by_cases hlt : k < t.size
    · by_cases hdig : isDig t[k]
      · have hnx := round_next t k hlt HD.out hdig
        have HN := Lib.hid hnx.1
        have HV := Lib.hid hnx.2
        clear hnx
        obtain ⟨d0, d1⟩ := hdig
        have e0 : (48 : Int) ≤ (t[k].toNat : Int) := by omega
        have e1 : (t[k].toNat : Int) ≤ 57 := by omega
        have e2 : (0 : Int) ≤ (dv (t.data.toList.take k) : Int) := by omega
        have e3 : (dv (t.data.toList.take k) : Int) ≤ 999999 := by omega
        clear d0 d1 hbd
        go_wp2
        all_goals
          go_round
          case rel => exact ⟨k + 1, by omega, by go_num, by rw [HV.out], HN⟩
          case measure => simp [intOf]; omega
      · have HX := Lib.hid (neg_dig (mem_at t k hlt) hdig)
        have hdg : (t[k].toNat : Int) < 48 ∨ (57 : Int) < (t[k].toNat : Int) := by unfold isDig at hdig; omega
        clear hdig
        rcases hdg with hdg | hdg
        all_goals
          go_wp2
          go_ret2
          exact read_none (by rw [HL.out]; exact HX.out) (Below.refl _ _)
    · obtain rfl : k = t.size := by omega
      have ez : dv (List.take t.size t.data.toList) = dv t.data.toList := by rw [List.take_of_length_le (by simp)]
      generalize dv (List.take t.size t.data.toList) = z at hbd ez ⊢
      have HZ := Lib.hid ez
      have b0 : (-999999 : Int) ≤ -(z : Int) := by omega
      have b1 : -(z : Int) ≤ 999999 := by omega
      clear ez hbd
      by_cases hq : (⟨(Lib.itoa (-(z : Int))).toArray⟩ : ByteArray) = s
      · have HQ := Lib.hid hq
        clear hq
        go_wp2_with fail
        refine (l1Num_any _ b0 b1 _).mono ?_
        rintro e w2 ⟨rfl, q, rfl⟩
        rw [HQ.out]
        go_wp2
        go_ret2
        exact read_some ⟨b0, b1⟩ (by have := HQ.out; rw [← this]) (below_drewN _ _)
      · have HX : Hid (Parsed s.data.toList none) := by
          rw [HL.out]
          refine neg_val (fun e => hq ?_)
          rw [HZ.out, e, ← HL.out]
        generalize hy : (⟨(Lib.itoa (-(z : Int))).toArray⟩ : ByteArray) = y at hq
        have HY := Lib.hid hy
        have hne := str_ne hq
        clear hy hq
        go_wp2_with fail
        refine (l1Num_any _ b0 b1 _).mono ?_
        rintro e w2 ⟨rfl, q, rfl⟩
        rw [HY.out]
        go_wp2
        go_ret2
        exact read_none HX.out (below_drewN _ _)

set_option maxHeartbeats 1000000 in
theorem read_neg_far (s t : ByteArray) (h2 : 1 < s.size) (hc : (s[0].toNat : Int) = 45) (ht : s.extract 1 s.size = t) (htl : s.data.toList = 45 :: t.data.toList) (hm : s.size ≤ maxLen) (h6 : 6 < t.size) (w : World) :
    Calls Tryd.prog 29 #[.string s] w (ReadPost s w) := by
  have hts : s.size = t.size + 1 := by
    have := congrArg List.length htl
    simpa using this
  have HX : Hid (Parsed s.data.toList none) := by
    rw [htl]
    exact neg_len (.inr (by simpa using h6))
  unfold maxLen at hm
  have HT := Lib.hid ht
  have HS := Lib.hid hts
  clear ht htl hts
  go_enter Tryd.func29, Tryd.ntmps29
  go_wp2_with fail
  rw [HT.out]
  refine (in_no _ _ _ (.inr (by have := HS.out; omega)) _).mono ?_
  rintro e w' ⟨rfl, rfl⟩
  go_wp2
  go_ret2
  exact read_none HX.out (Below.refl _ _)

/-! ### No sign: t is s itself -/
set_option maxHeartbeats 1000000 in
theorem read_pos (s : ByteArray) (hn : ∀ m : Nat, s.data.toList ≠ 45 :: Lib.decDigits m) (h0 : 1 ≤ s.size) (hc : ∀ h : 1 < s.size, (s[0].toNat : Int) ≠ 45) (h6 : s.size ≤ 6) (w : World) :
    Calls Tryd.prog 29 #[.string s] w (ReadPost s w) := by
  have HN := Lib.hid hn
  clear hn
  have key : ∀ (b : Bool), (b = true → ((1 < s.size) ∧ ∀ _ : 1 < s.size, ((s[0].toNat : Int) == 45) = false)) → (b = false → ¬ 1 < s.size) → Calls Tryd.prog 29 #[.string s] w (ReadPost s w) := by
    intro b hb1 hb2
    cases b
    · have hsz := hb2 rfl
      clear hb1 hb2 hc
      go_enter Tryd.func29, Tryd.ntmps29
      go_wp2_with fail
      refine (in_yes _ _ _ (by omega) (by omega) _).mono ?_
      rintro e w' ⟨rfl, rfl⟩
      go_wp2
      go_loop [5, 6] (fun n i => ∃ k : Nat, k ≤ s.size ∧ i = .int .i64 k ∧ n = .int .i64 (dv (s.data.toList.take k)) ∧ Hid (∀ c ∈ s.data.toList.take k, isDig c)) (fun _ i => s.size - (intOf i).toNat)
      case atStart => exact ⟨0, Nat.zero_le _, rfl, rfl, Lib.hid (by simp)⟩
      case round =>
        obtain ⟨k, hk, rfl, rfl, HD⟩ := hrel
        have hbd := dv_take_bd s k h6 HD.out
        by_cases hlt : k < s.size
        · by_cases hdig : isDig s[k]
          · have hnx := round_next s k hlt HD.out hdig
            have HN := Lib.hid hnx.1
            have HV := Lib.hid hnx.2
            clear hnx
            obtain ⟨d0, d1⟩ := hdig
            have e0 : (48 : Int) ≤ (s[k].toNat : Int) := by omega
            have e1 : (s[k].toNat : Int) ≤ 57 := by omega
            have e2 : (0 : Int) ≤ (dv (s.data.toList.take k) : Int) := by omega
            have e3 : (dv (s.data.toList.take k) : Int) ≤ 999999 := by omega
            clear d0 d1 hbd
            go_wp2
            all_goals
              go_round
              case rel => exact ⟨k + 1, by omega, by go_num, by rw [HV.out], HN⟩
              case measure => simp [intOf]; omega
          · have HX := Lib.hid (pos_dig HN.out (mem_at s k hlt) hdig)
            have hdg : (s[k].toNat : Int) < 48 ∨ (57 : Int) < (s[k].toNat : Int) := by unfold isDig at hdig; omega
            clear hdig
            rcases hdg with hdg | hdg
            all_goals
              go_wp2
              go_ret2
              exact read_none HX.out (Below.refl _ _)
        · obtain rfl : k = s.size := by omega
          have ez : dv (List.take s.size s.data.toList) = dv s.data.toList := by rw [List.take_of_length_le (by simp)]
          generalize dv (List.take s.size s.data.toList) = z at hbd ez ⊢
          have HZ := Lib.hid ez
          have b0 : (-999999 : Int) ≤ (z : Int) := by omega
          have b1 : (z : Int) ≤ 999999 := by omega
          clear ez hbd
          by_cases hq : (⟨(Lib.itoa ((z : Int))).toArray⟩ : ByteArray) = s
          · have HQ := Lib.hid hq
            clear hq
            go_wp2_with fail
            refine (l1Num_any _ b0 b1 _).mono ?_
            rintro e w2 ⟨rfl, q, rfl⟩
            rw [HQ.out]
            go_wp2
            go_ret2
            exact read_some ⟨b0, b1⟩ (by have := HQ.out; rw [← this]) (below_drewN _ _)
          · have HX : Hid (Parsed s.data.toList none) := by
              refine pos_val HN.out (fun e => hq ?_)
              rw [HZ.out, e]
            generalize hy : (⟨(Lib.itoa ((z : Int))).toArray⟩ : ByteArray) = y at hq
            have HY := Lib.hid hy
            have hne := str_ne hq
            clear hy hq
            go_wp2_with fail
            refine (l1Num_any _ b0 b1 _).mono ?_
            rintro e w2 ⟨rfl, q, rfl⟩
            rw [HY.out]
            go_wp2
            go_ret2
            exact read_none HX.out (below_drewN _ _)
    · obtain ⟨hsz, hcc⟩ := hb1 rfl
      have hcb := hcc hsz
      clear hb1 hb2 hc hcc
      go_enter Tryd.func29, Tryd.ntmps29
      go_wp2_with fail
      refine (in_yes _ _ _ (by omega) (by omega) _).mono ?_
      rintro e w' ⟨rfl, rfl⟩
      go_wp2
      go_loop [5, 6] (fun n i => ∃ k : Nat, k ≤ s.size ∧ i = .int .i64 k ∧ n = .int .i64 (dv (s.data.toList.take k)) ∧ Hid (∀ c ∈ s.data.toList.take k, isDig c)) (fun _ i => s.size - (intOf i).toNat)
      case atStart => exact ⟨0, Nat.zero_le _, rfl, rfl, Lib.hid (by simp)⟩
      case round =>
        obtain ⟨k, hk, rfl, rfl, HD⟩ := hrel
        have hbd := dv_take_bd s k h6 HD.out
        by_cases hlt : k < s.size
        · by_cases hdig : isDig s[k]
          · have hnx := round_next s k hlt HD.out hdig
            have HN := Lib.hid hnx.1
            have HV := Lib.hid hnx.2
            clear hnx
            obtain ⟨d0, d1⟩ := hdig
            have e0 : (48 : Int) ≤ (s[k].toNat : Int) := by omega
            have e1 : (s[k].toNat : Int) ≤ 57 := by omega
            have e2 : (0 : Int) ≤ (dv (s.data.toList.take k) : Int) := by omega
            have e3 : (dv (s.data.toList.take k) : Int) ≤ 999999 := by omega
            clear d0 d1 hbd
            go_wp2
            all_goals
              go_round
              case rel => exact ⟨k + 1, by omega, by go_num, by rw [HV.out], HN⟩
              case measure => simp [intOf]; omega
          · have HX := Lib.hid (pos_dig HN.out (mem_at s k hlt) hdig)
            have hdg : (s[k].toNat : Int) < 48 ∨ (57 : Int) < (s[k].toNat : Int) := by unfold isDig at hdig; omega
            clear hdig
            rcases hdg with hdg | hdg
            all_goals
              go_wp2
              go_ret2
              exact read_none HX.out (Below.refl _ _)
        · obtain rfl : k = s.size := by omega
          have ez : dv (List.take s.size s.data.toList) = dv s.data.toList := by rw [List.take_of_length_le (by simp)]
          generalize dv (List.take s.size s.data.toList) = z at hbd ez ⊢
          have HZ := Lib.hid ez
          have b0 : (-999999 : Int) ≤ (z : Int) := by omega
          have b1 : (z : Int) ≤ 999999 := by omega
          clear ez hbd
          by_cases hq : (⟨(Lib.itoa ((z : Int))).toArray⟩ : ByteArray) = s
          · have HQ := Lib.hid hq
            clear hq
            go_wp2_with fail
            refine (l1Num_any _ b0 b1 _).mono ?_
            rintro e w2 ⟨rfl, q, rfl⟩
            rw [HQ.out]
            go_wp2
            go_ret2
            exact read_some ⟨b0, b1⟩ (by have := HQ.out; rw [← this]) (below_drewN _ _)
          · have HX : Hid (Parsed s.data.toList none) := by
              refine pos_val HN.out (fun e => hq ?_)
              rw [HZ.out, e]
            generalize hy : (⟨(Lib.itoa ((z : Int))).toArray⟩ : ByteArray) = y at hq
            have HY := Lib.hid hy
            have hne := str_ne hq
            clear hy hq
            go_wp2_with fail
            refine (l1Num_any _ b0 b1 _).mono ?_
            rintro e w2 ⟨rfl, q, rfl⟩
            rw [HY.out]
            go_wp2
            go_ret2
            exact read_none HX.out (below_drewN _ _)
  by_cases h1 : 1 < s.size
  · exact key true (fun _ => ⟨h1, fun _ => beq_false_of_ne (hc h1)⟩) (fun e => by cases e)
  · exact key false (fun e => by cases e) (fun _ => h1)

set_option maxHeartbeats 1000000 in
theorem read_pos_far (s : ByteArray) (hn : ∀ m : Nat, s.data.toList ≠ 45 :: Lib.decDigits m) (hc : ∀ h : 1 < s.size, (s[0].toNat : Int) ≠ 45) (h6 : s.size = 0 ∨ 6 < s.size) (hm : s.size ≤ maxLen) (w : World) :
    Calls Tryd.prog 29 #[.string s] w (ReadPost s w) := by
  have HX : Hid (Parsed s.data.toList none) := pos_len hn (by simpa using h6)
  clear hn
  unfold maxLen at hm
  rcases h6 with h6 | h6
  · have hsz : ¬ 1 < s.size := by omega
    have hI : Hid ((s.size : Int) < 1) := Lib.hid (by omega)
    clear hc
    go_enter Tryd.func29, Tryd.ntmps29
    go_wp2_with fail
    refine (in_no _ _ _ (.inl (by have := hI.out; omega)) _).mono ?_
    rintro e w' ⟨rfl, rfl⟩
    go_wp2
    go_ret2
    exact read_none HX.out (Below.refl _ _)
  · have hsz : 1 < s.size := by omega
    have hcb := beq_false_of_ne (hc hsz)
    clear hc
    go_enter Tryd.func29, Tryd.ntmps29
    go_wp2_with fail
    refine (in_no _ _ _ (.inr (by omega)) _).mono ?_
    rintro e w' ⟨rfl, rfl⟩
    go_wp2
    go_ret2
    exact read_none HX.out (Below.refl _ _)

/-- l1Read at every text. -/
theorem l1Read_any (s : ByteArray) (hm : s.size ≤ maxLen) (w : World) : Calls Tryd.prog 29 #[.string s] w (ReadPost s w) := by
  by_cases hc : ∃ r, s.data.toList = 45 :: r ∧ r ≠ []
  · obtain ⟨r, hr, hne⟩ := hc
    have h2 : 1 < s.size := by
      have := congrArg List.length hr
      have h3 : r.length ≠ 0 := fun h => hne (List.length_eq_zero_iff.1 h)
      simp at this; omega
    have ht : (s.extract 1 s.size).data.toList = r := by
      have hl : r.length = s.size - 1 := by
        have := congrArg List.length hr
        simp at this; omega
      simp [hr]
      exact List.take_of_length_le (by omega)
    have h45 : (s[0].toNat : Int) = 45 := by
      have : s[0] = s.data.toList[0]'(by simp; omega) := rfl
      rw [this]; simp [hr]
    by_cases h6 : (s.extract 1 s.size).size ≤ 6
    · exact read_neg s _ h2 h45 rfl (by rw [ht, hr]) hm h6 w
    · exact read_neg_far s _ h2 h45 rfl (by rw [ht, hr]) hm (by omega) w
  · have hn : ∀ m : Nat, s.data.toList ≠ 45 :: Lib.decDigits m := fun m e => hc ⟨_, e, dec_ne m⟩
    have hcc : ∀ h : 1 < s.size, (s[0].toNat : Int) ≠ 45 := fun h e => by
      refine hc ?_
      cases hl : s.data.toList with
      | nil =>
        have e2 : s.data.toList.length = 0 := by rw [hl]; rfl
        have e3 : s.data.toList.length = s.size := by simp
        omega
      | cons c r =>
        have e0 : s[0] = c := by
          have : s[0] = s.data.toList[0]'(by simp; omega) := rfl
          rw [this]; simp [hl]
        rw [e0] at e
        refine ⟨r, ?_, ?_⟩
        · congr 1; exact UInt8.toNat_inj.1 (by have e4 : (45 : UInt8).toNat = 45 := rfl; omega)
        · rintro rfl
          have e2 : s.data.toList.length = 1 := by rw [hl]; rfl
          have e3 : s.data.toList.length = s.size := by simp
          omega
    by_cases h6 : s.size = 0 ∨ 6 < s.size
    · exact read_pos_far s hn hcc h6 hm w
    · exact read_pos s hn (by omega) hcc (by omega) w
end Go.Proofs.YtppiocjmhlgjoaaDoor
