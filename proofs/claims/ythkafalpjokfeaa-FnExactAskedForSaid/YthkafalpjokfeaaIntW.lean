/-
  Slices of any numbers: how one that came in is opened; the laws' own toIntS, eqIntS. Used by the claims on chapter 5.
-/
import Derived.Test.YthkafalpjokfeaaTrcL
import Derived.Test.YthkafalpjokfeaaSeqX
import Derived.Deep.Slices
import Derived.ChangeSame
namespace Go.Proofs.Ythkafalpjokfeaa
open Go.RowKit Go.ChangeShapes
set_option linter.unusedVariables false

/-- Numbers in memory, from an offset of a block on. -/
def SrcI (w : World) (a : Option Addr) (b o : Nat) (l : List Int) : Prop := (0 < l.length → a = some ⟨b, o, none⟩) ∧ ∀ (j : Nat) x, l[j]? = some x → w.cell? ⟨b, o + j, none⟩ = some (.int .i64 x)
theorem SrcI.below {w w' : World} {a : Option Addr} {b o : Nat} {l : List Int} (h : SrcI w a b o l) (hb : Below w.heap.size w w') : SrcI w' a b o l :=
  ⟨h.1, fun j x hx => (hb.cell (World.block_lt_of_cell? _ _ (h.2 j x hx))).trans (h.2 j x hx)⟩
def InI (l : List Int) : Prop := ∀ x ∈ l, -9223372036854775808 ≤ x ∧ x ≤ 9223372036854775807
/-- What the walk is told of a slice of numbers that came in: nil, or a row of cap cells. -/
def IsInts (w : World) (a : Option Addr) (len cap : Nat) (z : List Int) : Prop :=
  (a = none ∧ len = 0 ∧ cap = 0 ∧ z = []) ∨
  ∃ x, a = some x ∧ len ≤ cap ∧ cap ≤ maxLen ∧ z.length = cap ∧ (∀ i, i < z.length → w.cell? (x.add i) = some (.int .i64 (z.getD i 0))) ∧ ∀ n ∈ z, (Lit.int .i64 n).wf = true
theorem wf_i64 {n : Int} (h : (Lit.int .i64 n).wf = true) : -9223372036854775808 ≤ n ∧ n ≤ 9223372036854775807 := by
  have h' : (decide (IntKind.i64.min ≤ n) && decide (n ≤ IntKind.i64.max)) = true := h
  have e1 : IntKind.i64.min = -9223372036854775808 := by decide
  have e2 : IntKind.i64.max = 9223372036854775807 := by decide
  rw [e1, e2] at h'
  simpa using h'
theorem isInts_src {w : World} {a : Option Addr} {len cap : Nat} {z : List Int} (h : IsInts w a len cap z) : ∃ l b o, len = l.length ∧ SrcI w a b o l ∧ InI l ∧ l.length ≤ maxLen := by
  rcases h with ⟨rfl, rfl, rfl, rfl⟩ | ⟨x, rfl, hlc, hcm, hz, hcell, hsz⟩
  · exact ⟨[], 0, 0, rfl, ⟨fun h => by simp at h, fun j x hx => by simp at hx⟩, fun x hx => by simp at hx, by simp⟩
  · have hlen : (z.take len).length = len := by rw [List.length_take]; omega
    obtain ⟨b, off, spot⟩ := x
    refine ⟨z.take len, b, off, hlen.symm, ⟨fun h0 => ?_, fun j x hx => ?_⟩, fun x hx => wf_i64 (hsz x (List.mem_of_mem_take hx)), by omega⟩
    · have hc := hcell 0 (by omega)
      have hspot : spot = none := by simpa [Addr.add] using World.cell?_spot hc
      rw [hspot]
    · have hj : j < (z.take len).length := (List.getElem?_eq_some_iff.1 hx).1
      have hc := hcell j (by omega)
      have hc0 := hcell 0 (by omega)
      have hspot : spot = none := by simpa [Addr.add] using World.cell?_spot hc0
      subst hspot
      rw [Addr.add_lit] at hc
      rw [hc]
      have h2 : z[j]? = some x := by
        rw [List.getElem?_take_of_lt (by omega)] at hx; exact hx
      rw [List.getD_eq_getElem?_getD, h2]; rfl

theorem infoIntI : (Try.prog.info? 3).map (fun i => (i.zero, i.size, i.bytes)) = some (some (.int .i64 0), 1, 8) := by kernel_rfl
theorem toI_any (a : Option Addr) (b o c : Nat) (l : List Int) (w : World) (hs : SrcI w a b o l) (hl : l.length ≤ 1048576) :
    Calls Try.prog 20 #[.slice a l.length c] w fun e w' => e = .returned (.slice (some ⟨w.heap.size, 0, none⟩) l.length l.length) ∧ SrcV w' (some ⟨w.heap.size, 0, none⟩) w.heap.size (intz l) ∧ Open w' w.heap.size l.length ∧ w.heap.size < w'.heap.size ∧ Below w.heap.size w w' := by
  have HC := Lib.hid hs.2
  have HX := Lib.hid hs.1
  clear hs
  have hmk := run_make_row' (P := Try.prog) 25 3 (.int .i64 0) 8 Try.underlying25 infoIntI rfl .i64 .i64 l.length (by omega) (by omega)
  have HR := Lib.hid (World.rowIs_made w (.int .i64 0) l.length 3)
  go_enter Try.func20, Try.ntmps20
  go_wp2
  go_loopw [4] (fun v wr => ∃ k : Nat, v = .int .i64 k ∧ k ≤ l.length ∧ Hid (wr.rowIs w.heap.size 3 l.length (fun j => if j < k then .int .i64 (l.getD j 0) else .int .i64 0)) ∧ Hid (Below w.heap.size w wr)) (fun v _ => l.length - (intOf v).toNat)
  case atStart => exact ⟨0, rfl, Nat.zero_le _, HR.out.congr (fun i _ => by simp), (Below.refl _ _).alloc (Nat.le_refl _) _⟩
  case round =>
    obtain ⟨k, rfl, hk, HW, HB⟩ := hrel
    by_cases hlt : k < l.length
    · obtain rfl := HX.out (by omega)
      have hcell0 := HC.out k _ (List.getElem?_eq_getElem hlt)
      have hg : b < w.heap.size := World.block_lt_of_cell? _ _ hcell0
      have hcell := (HB.out.cell (p := ⟨b, o + k, none⟩) hg).trans hcell0
      have HD : Hid (l.getD k 0 = l[k]) := by show _ = _; rw [List.getD_eq_getElem?_getD, List.getElem?_eq_getElem hlt]; rfl
      generalize l[k] = x at hcell HD
      clear hcell0
      have d1 := HW.out.cell hlt
      have d2 := HW.out.frozen k
      have HN : Hid ((wr.setCell ⟨w.heap.size, k, none⟩ (.int .i64 x)).rowIs w.heap.size 3 l.length (fun j => if j < k + 1 then .int .i64 (l.getD j 0) else .int .i64 0)) := Lib.hid ((HW.out.set k (.int .i64 x)).congr (fun i hi => by
        by_cases e : i = k
        · subst e; rw [if_pos rfl, if_pos (by omega), HD.out]
        · rw [if_neg e]
          by_cases e2 : i < k
          · rw [if_pos e2, if_pos (by omega)]
          · rw [if_neg e2, if_neg (by omega)]))
      have HB2 : Hid (Below w.heap.size w (wr.setCell ⟨w.heap.size, k, none⟩ (.int .i64 x))) := Lib.hid (HB.out.setCell (p := ⟨w.heap.size, k, none⟩) (Nat.le_refl _) _)
      go_wp2
      go_roundw
      case rel => exact ⟨k + 1, by go_num, by omega, HN, HB2⟩
      case measure => simp [intOf]; omega
    · obtain rfl : k = l.length := by omega
      go_wp2
      go_ret
      refine ⟨rfl, ⟨fun _ => rfl, fun j v hv => ?_⟩, fun j _ => HW.out.frozen j, HW.out.lt, HB.out⟩
      have hj : j < l.length := by have := (List.getElem?_eq_some_iff.1 hv).1; rwa [intz_len] at this
      rw [intz_at hj] at hv
      have := HW.out.cell hj
      rw [if_pos hj, List.getD_eq_getElem?_getD, List.getElem?_eq_getElem hj] at this
      rw [this]; exact hv

set_option maxHeartbeats 1000000 in
theorem eqZ_yes (a1 a2 : Option Addr) (g1 g2 c1 c2 : Nat) (l : List Int) (w : World) (hl : l.length ≤ 1048576) (h1 : SrcV w a1 g1 (intz l)) (h2 : SrcV w a2 g2 (intz l)) :
    Calls Try.prog 23 #[.slice a1 l.length c1, .slice a2 l.length c2] w fun e w' => e = .returned (.bool true) ∧ Below w.heap.size w w' := by
  have H1 := Lib.hid h1
  have H2 := Lib.hid h2
  clear h1 h2
  go_enter Try.func23, Try.ntmps23
  go_wp2
  go_loopw [5] (fun v wr => ∃ (i q : Nat), v = .int .i64 i ∧ i ≤ l.length ∧ wr = w.drewN q) (fun v _ => l.length - (intOf v).toNat)
  case atStart => exact ⟨0, 0, rfl, Nat.zero_le _, rfl⟩
  case round =>
    obtain ⟨i, q, rfl, hi, rfl⟩ := hrel
    by_cases hlt : i < l.length
    · obtain rfl := H1.out.1 (by rw [intz_len]; omega)
      obtain rfl := H2.out.1 (by rw [intz_len]; omega)
      have d1 := H1.out.2 i _ (intz_at hlt)
      have d2 := H2.out.2 i _ (intz_at hlt)
      generalize l[i] = x at d1 d2
      have i0 : (0 : Int) ≤ (i : Int) := by omega
      have i1 : (i : Int) < (l.length : Int) := by omega
      go_wp2
      go_quiet (fail)
      go_wp2
      go_roundw
      case rel => exact ⟨i + 1, _, by go_num, by omega, rfl⟩
      case measure => simp [intOf]; omega
    · go_wp2
      go_ret
      exact ⟨rfl, rfl, rfl, rfl, Nat.le_refl _, fun _ _ => rfl⟩
/-- A list in memory that may be written: its cells, open. -/
structure Own (W : World) (a : Option Addr) (g : Nat) (vs : List Value) : Prop where
  src : SrcV W a g vs
  opn : Open W g vs.length
  lt : 0 < vs.length → g < W.heap.size
theorem Own.below {W W' : World} {a : Option Addr} {g : Nat} {vs : List Value} (h : Own W a g vs) (hb : Below W.heap.size W W') : Own W' a g vs :=
  ⟨h.src.below hb, h.opn.step hb h.lt, fun h0 => Nat.lt_of_lt_of_le (h.lt h0) hb.size⟩
theorem Own.grown {W W' : World} {a : Option Addr} {g q : Nat} {vs : List Value} (h : Own W a g vs) (hg : W.grownBy W' (some q)) (hne : 0 < vs.length → g ≠ q) : Own W' a g vs :=
  ⟨h.src.grown hg hne, h.opn.grown hg h.lt hne, fun h0 => Nat.lt_of_lt_of_le (h.lt h0) hg.size⟩

structure MarkedN (w wr : World) (g n : Nat) : Prop where
  grown : w.grownBy wr (some g)
  open_ : ∀ j, j < n → (∃ v, wr.cell? ⟨g, j, none⟩ = some v) ∧ wr.frozen? ⟨g, j, none⟩ = false
theorem MarkedN.step {w wr : World} {g n i : Nat} {u : Value} (h : MarkedN w wr g n) (hi : i < n) : MarkedN w (wr.setCell ⟨g, i, none⟩ u) g n := by
  obtain ⟨⟨v, hv⟩, hf⟩ := h.open_ i hi
  refine ⟨grown_trans_some h.grown (grown_set i _), fun j hj => ⟨?_, ?_⟩⟩
  · by_cases e : j = i
    · subst e; exact ⟨_, World.cell?_setCell_same' _ _ _ (by rw [hv]; rfl)⟩
    · rw [World.cell?_setCell_other _ _ _ _ (by intro e2; cases e2; exact e rfl)]; exact (h.open_ j hj).1
  · rw [World.frozen?_setCell]; exact (h.open_ j hj).2
set_option maxHeartbeats 1000000 in
/-- A list of numbers is marked, from any number on. -/
theorem markN_any (a : Option Addr) (g : Nat) (vs : List Value) (n c : Nat) (hvs : vs.length = n) (k0 : Nat) (w : World) (ho : Own w a g vs) (h2 : n ≤ 1048576) (hk0 : k0 ≤ 2097152) :
    Calls Try.prog 27 #[.slice a n c, .int .i64 k0] w fun e w' => ∃ m : Nat, m ≤ k0 + n ∧ e = .returned (.int .i64 (m : Int)) ∧ w.grownBy w' (some g) := by
  subst hvs
  have HA := Lib.hid ho.src.1
  have HO : Hid (MarkedN w w g vs.length) := Lib.hid ⟨⟨rfl, rfl, rfl, Nat.le_refl _, fun _ _ _ => rfl⟩, srcV_cells ho.src ho.opn⟩
  clear ho
  generalize vs.length = n at h2 HA HO ⊢
  go_enter Try.func27, Try.ntmps27
  go_wp2
  go_loopw [1, 5] (fun q v wr => ∃ (i m : Nat), v = .int .i64 i ∧ i ≤ n ∧ q = .int .i64 (m : Int) ∧ m ≤ k0 + i ∧ Hid (MarkedN w wr g n)) (fun _ v _ => n - (intOf v).toNat)
  case atStart => exact ⟨0, k0, rfl, Nat.zero_le _, rfl, Nat.le_refl _, HO⟩
  case round =>
    obtain ⟨i, m, rfl, hi, rfl, hm, HM⟩ := hrel
    by_cases hlt : i < n
    · obtain rfl := HA.out (by omega)
      obtain ⟨⟨v, hv⟩, hf⟩ := HM.out.open_ i hlt
      have HN := Lib.hid (HM.out.step (u := .int .i64 (m : Int)) hlt)
      have i0 : (0 : Int) ≤ (i : Int) := by omega
      have i1 : (i : Int) < (n : Int) := by omega
      go_wp2
      go_roundw
      case rel => exact ⟨i + 1, m + 1, by go_num, by omega, by go_num, by omega, HN⟩
      case measure => simp [intOf]; omega
    · obtain rfl : i = n := by omega
      go_wp2
      go_ret
      exact ⟨m, hm, rfl, HM.out.grown⟩
end Go.Proofs.Ythkafalpjokfeaa
