/-
  l8Best of the model: the best marks, the greatest weights first. Used by the claims on chapter 8.
-/
import Derived.Test.YtdphjnbelggcfaaBsfT
import Derived.Test.YtdphjnbelggcfaaSwtW
import Derived.Test.YtdphjnbelggcfaaCstW
namespace Go.Proofs.Ytdphjnbelggcfaa
open Go.RowKit
set_option linter.unusedVariables false

/-- How many texts have been given away: to greater weights, and to letters of this weight ahead. -/
def usd (us : List Nat) (v i : Nat) : Nat := (List.range us.length).countP fun j => decide (v < uAt us j) || (decide (uAt us j = v) && decide (j < i))
def cGe (us : List Nat) (t : Nat) : Nat := (List.range us.length).countP fun j => decide (t ≤ uAt us j)
theorem usd_rk (us : List Nat) (i : Nat) : usd us (uAt us i) i = rk us i := rfl
theorem usd_zero (us : List Nat) (v : Nat) : usd us v 0 = cGe us (v + 1) := by
  unfold usd cGe
  refine List.countP_congr fun j _ => ?_
  simp; omega
theorem usd_end (us : List Nat) (v : Nat) : usd us v us.length = cGe us v := by
  unfold usd cGe
  refine List.countP_congr fun j hj => ?_
  have := List.mem_range.1 hj
  simp; omega
theorem range_split {n i : Nat} (h : i < n) : List.range n = List.range i ++ i :: (List.range (n - i - 1)).map (· + (i + 1)) := by
  have e : n = (i + 1) + (n - i - 1) := by omega
  conv => lhs; rw [e, List.range_add, List.range_succ]
  simp [Nat.add_comm]
theorem usd_succ {us : List Nat} {v i : Nat} (h : i < us.length) : usd us v (i + 1) = usd us v i + if uAt us i = v then 1 else 0 := by
  unfold usd
  rw [range_split h, List.countP_append, List.countP_append, List.countP_cons, List.countP_cons]
  have e1 : (List.range i).countP (fun j => decide (v < uAt us j) || (decide (uAt us j = v) && decide (j < i + 1))) = (List.range i).countP (fun j => decide (v < uAt us j) || (decide (uAt us j = v) && decide (j < i))) := List.countP_congr fun j hj => by
    have := List.mem_range.1 hj
    simp; omega
  have e2 : ((List.range (us.length - i - 1)).map (· + (i + 1))).countP (fun j => decide (v < uAt us j) || (decide (uAt us j = v) && decide (j < i + 1))) = ((List.range (us.length - i - 1)).map (· + (i + 1))).countP (fun j => decide (v < uAt us j) || (decide (uAt us j = v) && decide (j < i))) := List.countP_congr fun j hj => by
    obtain ⟨k, _, rfl⟩ := List.mem_map.1 hj
    simp only [Bool.or_eq_true, Bool.and_eq_true, decide_eq_true_eq]; omega
  rw [e1, e2]
  by_cases hv : uAt us i = v
  · rw [if_pos hv, if_pos (by simp [hv]), if_neg (by simp [hv])]; omega
  · rw [if_neg hv]
    by_cases h2 : v < uAt us i
    · rw [if_pos (by simp [h2]), if_pos (by simp [h2])]; omega
    · rw [if_neg (by simp [h2, hv]), if_neg (by simp [h2])]; omega
theorem usd_le (us : List Nat) (v i : Nat) : usd us v i ≤ us.length := by
  have := List.countP_le_length (p := fun j => decide (v < uAt us j) || (decide (uAt us j = v) && decide (j < i))) (l := List.range us.length)
  rw [List.length_range] at this
  exact this
theorem usd_lt {us : List Nat} {i : Nat} (h : i < us.length) : usd us (uAt us i) i < us.length := by
  have h1 := usd_succ (v := uAt us i) h
  rw [if_pos rfl] at h1
  have := usd_le us (uAt us i) (i + 1)
  omega

/-- The row as far as it is filled. -/
def bRow (L : List ByteArray) (us : List Nat) (v i j : Nat) : Value := .string (if v < uAt us j ∨ (uAt us j = v ∧ j < i) then L.getD (rk us j) ⟨#[]⟩ else ⟨#[]⟩)
structure RowB (wr : World) (B : Nat) (L : List ByteArray) (us : List Nat) (v i : Nat) : Prop where
  row : wr.rowIs B 9 us.length (bRow L us v i)
theorem RowB.set {wr : World} {B : Nat} {L : List ByteArray} {us : List Nat} {v i : Nat} (h : RowB wr B L us v i) (hv : uAt us i = v) : RowB (wr.setCell ⟨B, i, none⟩ (.string (L.getD (rk us i) ⟨#[]⟩))) B L us v (i + 1) :=
  ⟨(h.row.set i _).congr fun j hj => by
    unfold bRow
    by_cases e : j = i
    · subst e; rw [if_pos rfl, if_pos (.inr ⟨hv, by omega⟩)]
    · rw [if_neg e]
      congr 1
      by_cases h1 : v < uAt us j ∨ (uAt us j = v ∧ j < i)
      · rw [if_pos h1, if_pos (by omega)]
      · rw [if_neg h1, if_neg (by omega)]⟩
theorem RowB.skip {wr : World} {B : Nat} {L : List ByteArray} {us : List Nat} {v i : Nat} (h : RowB wr B L us v i) (hv : uAt us i ≠ v) : RowB wr B L us v (i + 1) :=
  ⟨h.row.congr fun j hj => by
    unfold bRow
    congr 1
    by_cases h1 : v < uAt us j ∨ (uAt us j = v ∧ j < i)
    · rw [if_pos h1, if_pos (by omega)]
    · rw [if_neg h1, if_neg (by
        rintro (h2 | ⟨h2, h3⟩)
        · exact h1 (.inl h2)
        · by_cases e : j = i
          · subst e; exact hv h2
          · exact h1 (.inr ⟨h2, by omega⟩))]⟩
/-- Behind a weight: all letters of this or a greater one have their texts. -/
structure RowG (wr : World) (B : Nat) (L : List ByteArray) (us : List Nat) (t : Nat) : Prop where
  row : wr.rowIs B 9 us.length (fun j => .string (if t ≤ uAt us j then L.getD (rk us j) ⟨#[]⟩ else ⟨#[]⟩))
theorem RowG.start {wr : World} {B : Nat} {L : List ByteArray} {us : List Nat} {v : Nat} (h : RowG wr B L us (v + 1)) : RowB wr B L us v 0 :=
  ⟨h.row.congr fun j hj => by
    unfold bRow
    congr 1
    by_cases h1 : v + 1 ≤ uAt us j
    · rw [if_pos h1, if_pos (by omega)]
    · rw [if_neg h1, if_neg (by omega)]⟩
theorem RowB.done {wr : World} {B : Nat} {L : List ByteArray} {us : List Nat} {v : Nat} (h : RowB wr B L us v us.length) : RowG wr B L us v :=
  ⟨h.row.congr fun j hj => by
    unfold bRow
    congr 1
    by_cases h1 : v ≤ uAt us j
    · rw [if_pos (by omega), if_pos h1]
    · rw [if_neg (by omega), if_neg h1]⟩

set_option maxHeartbeats 2000000 in
set_option maxRecDepth 10000 in
theorem sBest_any (a : Option Addr) (b o c : Nat) (L : List ByteArray) (a1 : Option Addr) (g1 o1 c1 : Nat) (us : List Nat) (n1 n2 : Nat) (w : World) (hn1 : n1 = L.length) (hn2 : n2 = us.length) (hx : Src w a b o L) (hs : SrcI w a1 g1 o1 (zs us)) (h99 : ∀ u ∈ us, u ≤ 99) (h10 : us.length ≤ 10) (hle : us.length ≤ L.length) (hL : L.length ≤ 1000) :
    Calls Try.prog 133 #[.slice a n1 c, .slice a1 n2 c1] w fun e w' => ∃ B, e = .returned (.slice (some ⟨B, 0, none⟩) n2 n2) ∧ w.heap.size ≤ B ∧ RowT w' B us.length (bstL L us) ∧ Below w.heap.size w w' := by
  have HX := Lib.hid fun W (hb : Below w.heap.size w W) => hx.below hb
  have HS := Lib.hid fun W (hb : Below w.heap.size w W) => hs.below hb
  have HA := Lib.hid hx.1
  have HA1 := Lib.hid hs.1
  have HU : Hid (∀ i, i < us.length → uAt us i ≤ 99) := Lib.hid fun i hi => by rw [uAt_eq hi]; exact h99 _ (List.getElem_mem hi)
  have HN := Lib.hid (And.intro hn1 hn2)
  rw [← hn2] at h10 hle
  rw [← hn1] at hle hL
  have hmk := run_make_row' (P := Try.prog) 28 9 (.string ByteArray.empty) 16 Try.underlying28 infoStr rfl .i64 .i64 n2 (by omega) (by omega)
  have HR0 : Hid (RowG (w.alloc (.cells (madeCells #[.string ByteArray.empty] n2) 9)) w.heap.size L us 100) := Lib.hid ⟨by
    rw [← hn2]
    exact (World.rowIs_made w (.string ByteArray.empty) n2 9).congr fun j hj => by
      rw [if_neg (by have := HU.out j (by omega); omega)]; rfl⟩
  have HB0 := Lib.hid (below_alloc w (.cells (madeCells #[.string ByteArray.empty] n2) 9))
  have HZ : Hid (cGe us 100 = 0) := Lib.hid (by
    unfold cGe
    rw [List.countP_eq_zero]
    intro j hj
    have := HU.out j (List.mem_range.1 hj)
    simp only [decide_eq_true_eq]; omega)
  clear hx hs h99 hn1 hn2
  go_enter Try.func133, Try.ntmps133
  go_wp2
  clear hmk
  go_loopw [6, 7] (fun s v wr => ∃ t q : Nat, v = .int .i64 ((t : Int) - 1) ∧ t ≤ 100 ∧ s = .int .i64 (q : Int) ∧ Hid (q = cGe us t) ∧ Hid (RowG wr w.heap.size L us t) ∧ Hid (Below w.heap.size w wr)) (fun _ v _ => (intOf v + 1).toNat)
  case atStart => exact ⟨100, 0, rfl, Nat.le_refl _, rfl, Lib.hid HZ.out.symm, HR0, HB0⟩
  case round =>
    obtain ⟨t, q, rfl, ht, rfl, HQ, HR, HB⟩ := hrel
    cases t with
    | zero =>
      have e : ((0 : Nat) : Int) - 1 = -1 := by omega
      rw [e]
      have HFin : Hid (RowT wr w.heap.size us.length (bstL L us)) := Lib.hid ⟨HR.out.row.congr fun j hj => by rw [if_pos (Nat.zero_le _), bstL_rk L us j hj], bstL_len L us⟩
      go_wp2
      go_ret
      exact ⟨w.heap.size, rfl, Nat.le_refl _, HFin.out, HB.out⟩
    | succ v =>
      have e : ((v + 1 : Nat) : Int) - 1 = (v : Int) := by omega
      rw [e]
      have HQ0 : Hid (q = usd us v 0) := Lib.hid (by rw [usd_zero]; exact HQ.out)
      have HRB := Lib.hid HR.out.start
      have v0 : (0 : Int) ≤ (v : Int) := by omega
      obtain ⟨wo, hwo⟩ : ∃ wo : World, wo = wr := ⟨_, rfl⟩
      go_wp2
      go_loopw [6, 8] (fun s k wr2 => ∃ i q : Nat, k = .int .i64 i ∧ i ≤ n2 ∧ s = .int .i64 (q : Int) ∧ q ≤ 10 ∧ Hid (q = usd us v i) ∧ Hid (RowB wr2 w.heap.size L us v i) ∧ Hid (Below w.heap.size w wr2)) (fun _ k _ => n2 - (intOf k).toNat)
      case atStart => exact ⟨0, q, rfl, Nat.zero_le _, rfl, by have := HQ0.out; have := usd_le us v 0; have := HN.out.2; omega, HQ0, HRB, HB⟩
      case round =>
        clear HQ0 HRB hwo HQ HR HB e
        obtain ⟨i, q, rfl, hi, rfl, hq10, HQ, HR, HB⟩ := hrel
        by_cases hlt : i < n2
        · have hiu : i < us.length := by rw [← HN.out.2]; exact hlt
          obtain rfl := HA1.out (by rw [zs_len]; omega)
          have d1 := zs_srcI (HS.out wr HB.out) i hiu
          have HE : Hid (uAt us i = us[i]) := Lib.hid (uAt_eq hiu)
          have i0 : (0 : Int) ≤ (i : Int) := by omega
          have i1 : (i : Int) < (n2 : Int) := by omega
          have HSu := Lib.hid (usd_succ (v := v) hiu)
          by_cases hv : us[i] = v
          · have hrk : q = rk us i := by rw [HQ.out, ← usd_rk, HE.out, hv]
            have hql : q < L.length := by
              have := usd_lt hiu
              rw [HE.out, hv, ← HQ.out] at this
              have h1 := HN.out
              omega
            have hqn : q < n1 := by rw [HN.out.1]; exact hql
            obtain rfl := HA.out (by omega)
            have d2 := (HX.out wr HB.out).2 q _ (List.getElem?_eq_getElem hql)
            have HRs := Lib.hid (HR.out.set (by rw [HE.out]; exact hv))
            have HGd : Hid (L.getD (rk us i) ⟨#[]⟩ = L[q]) := Lib.hid (by rw [← hrk, List.getD_eq_getElem?_getD, List.getElem?_eq_getElem hql]; rfl)
            rw [HGd.out] at HRs
            have HQ2 : Hid (q + 1 = usd us v (i + 1)) := Lib.hid (by rw [HSu.out, HE.out, if_pos hv, ← HQ.out])
            have hq2 : q + 1 ≤ 10 := by have := usd_le us v (i + 1); have := HQ2.out; have := HN.out.2; omega
            have d3 := HR.out.row.cell hiu
            have f3 := HR.out.row.frozen i
            generalize bRow L us v i i = old at d3
            generalize L[q] = x at d2 HRs
            have HB2 := Lib.hid (HB.out.setCell (p := ⟨w.heap.size, i, none⟩) (Nat.le_refl _) (.string x))
            have q0 : (0 : Int) ≤ (q : Int) := by omega
            have q1 : (q : Int) < (n1 : Int) := by omega
            have t1 : (((us[i] : Nat) : Int) == (v : Int)) = true := by rw [hv]; simp
            generalize us[i] = y at d1 t1
            clear hv hrk hql HGd hiu HE
            go_wp2
            go_roundw
            case rel => exact ⟨i + 1, q + 1, by go_num, by omega, by go_num, hq2, HQ2, HRs, HB2⟩
            case measure => simp [intOf]; omega
          · have HRs := Lib.hid (HR.out.skip (by rw [HE.out]; exact hv))
            have HQ2 : Hid (q = usd us v (i + 1)) := Lib.hid (by rw [HSu.out, HE.out, if_neg hv]; exact HQ.out)
            have t1 : (((us[i] : Nat) : Int) == (v : Int)) = false := beq_false_of_ne (by omega)
            generalize us[i] = y at d1 t1
            clear hv hiu HE
            go_wp2
            go_roundw
            case rel => exact ⟨i + 1, q, by go_num, by omega, rfl, hq10, HQ2, HRs, HB⟩
            case measure => simp [intOf]; omega
        · obtain rfl : i = n2 := by omega
          have HD : Hid (RowG wr w.heap.size L us v) := Lib.hid (by have h := HR.out; rw [HN.out.2] at h; exact h.done)
          have HQ2 : Hid (q = cGe us v) := Lib.hid (by have h := HQ.out; rw [HN.out.2, usd_end] at h; exact h)
          have i1 : ¬ (i : Int) < (i : Int) := by omega
          go_wp2
          go_roundw
          case rel => exact ⟨v, q, rfl, by omega, rfl, HQ2, HD, HB⟩
          case measure => simp [intOf]
end Go.Proofs.Ytdphjnbelggcfaa
