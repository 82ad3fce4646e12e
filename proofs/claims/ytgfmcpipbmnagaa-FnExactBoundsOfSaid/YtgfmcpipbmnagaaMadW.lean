/-
  Lists that are made and answered if they are traces: ifTrace, l5Made; stretched traces. Used by the claims on chapter 5.
-/
import Derived.Test.YtgfmcpipbmnagaaDrfB
import Derived.Laws.OwnMore
import Derived.RegionTactic
import Derived.Deep.RegionLaw
namespace Go.Proofs.Ytgfmcpipbmnagaa
open Go.RowKit
set_option linter.unusedVariables false

def finR (m : List Nat) : List Nat × Bool := if traceZ (zs m) = true then (m, true) else ([], false)
/-- How a function ends that answers with a list of its own if it is a trace, and with none otherwise. -/
def FinOut (m : List Nat) (W : World) (e : Ending) (W' : World) : Prop := SeqOut (ints (finR m).1) (finR m).1.length (finR m).2 W e W'
theorem fin_some {m : List Nat} {W W' : World} {a : Option Addr} {g c : Nat} (h : traceZ (zs m) = true) (hs : SrcV W' a g (ints m)) (hg : 0 < (ints m).length → W.heap.size ≤ g) (ho : ∀ j, j < (ints m).length → W'.frozen? ⟨g, j, none⟩ = false) (hb : Below W.heap.size W W') :
    FinOut m W (.returned (.tuple #[.slice a m.length c, .bool true])) W' := by
  unfold FinOut finR
  rw [if_pos h]
  exact ⟨a, g, c, rfl, hs, hg, ho, hb⟩
theorem fin_none {m : List Nat} {W W' : World} {a : Option Addr} {c : Nat} (h : traceZ (zs m) = false) (hb : Below W.heap.size W W') :
    FinOut m W (.returned (.tuple #[.slice a 0 c, .bool false])) W' := by
  unfold FinOut finR
  rw [if_neg (by rw [h]; simp)]
  exact ⟨a, W.heap.size, c, rfl, ⟨fun h => by simp [ints] at h, fun j x hx => by simp [ints] at hx⟩, fun h => by simp [ints] at h, fun j hj => by simp [ints] at hj, hb⟩
theorem seq_no (a : Option Addr) (c : Nat) {W W' : World} (hb : Below W.heap.size W W') : SeqOut (ints []) ([] : List Nat).length false W (.returned (.tuple #[.slice a 0 c, .bool false])) W' :=
  ⟨a, W.heap.size, c, rfl, ⟨fun h => by simp [ints] at h, fun j x hx => by simp [ints] at hx⟩, fun h => by simp [ints] at h, fun j hj => by simp [ints] at hj, hb⟩
/-- Behind a row of its own the list is answered if it is a trace. -/
def MadePost (m : List Nat) (W : World) (e : Ending) (W' : World) : Prop := ∃ v ok, e = .returned (.tuple #[v, .bool ok]) ∧ FinOut m W (.returned (.tuple #[v, .bool ok])) W'
theorem sMade_out (v : Value) (m : List Nat) (w W : World) (hr : w.ownsRow W.heap.size 3 1 v m.length (ints m)) (hl : m.length ≤ 1048576) (hb : Below W.heap.size W w) :
    Calls Try.prog 59 #[v] w (MadePost m W) := by
  obtain ⟨a, g, c, rfl, hs, hg, ho⟩ := seq_of_row hr
  have hlt := fun h => srcV_lt hs h
  cases h : traceZ (zs m)
  · have F := Lib.hid (sTrace_f (zs m) false h (by rw [zs_len]; exact hl)).out
    have FC := Lib.hid (F.out w a g c (by rw [zs_ints]; exact hs))
    rw [zs_len] at FC
    have HN := Lib.hid h
    have HB := Lib.hid hb
    clear F h hs hg ho hlt hr hb
    go_enter Try.func59, Try.ntmps59
    go_wp2_with fail
    refine FC.out.mono ?_
    rintro e w1 ⟨rfl, hb⟩
    have HB1 := Lib.hid (HB.out.trans (hb.mono HB.out.size))
    clear hb
    go_wp2
    (first | go_ret | go_ret2)
    exact ⟨_, _, rfl, fin_none HN.out (by first | exact HB1.out | exact HB1.out.alloc HB1.out.size _)⟩
  · have F := Lib.hid (sTrace_f (zs m) true h (by rw [zs_len]; exact hl)).out
    have FC := Lib.hid (F.out w a g c (by rw [zs_ints]; exact hs))
    rw [zs_len] at FC
    have HN := Lib.hid h
    have HB := Lib.hid hb
    have HS := Lib.hid (And.intro hs (And.intro hg (And.intro ho hlt)))
    clear F h hs hg ho hlt hr hb
    go_enter Try.func59, Try.ntmps59
    go_wp2_with fail
    refine FC.out.mono ?_
    rintro e w1 ⟨rfl, hb⟩
    have HB1 := Lib.hid (HB.out.trans (hb.mono HB.out.size))
    have HS1 := Lib.hid (HS.out.1.below hb)
    have HO1 : Hid (∀ j, j < (ints m).length → w1.frozen? ⟨g, j, none⟩ = false) := Lib.hid fun j hj => (hb.frozen (p := ⟨g, j, none⟩) (HS.out.2.2.2 (by omega))).trans (HS.out.2.2.1 j hj)
    clear hb
    go_wp2
    (first | go_ret | go_ret2)
    exact ⟨_, _, rfl, fin_some HN.out HS1.out HS.out.2.1 HO1.out HB1.out⟩
theorem ifTrace_out (v : Value) (m : List Nat) (w W : World) (hr : w.ownsRow W.heap.size 3 1 v m.length (ints m)) (hl : m.length ≤ 1048576) (hb : Below W.heap.size W w) :
    Calls Try.prog 60 #[v] w (MadePost m W) := by
  obtain ⟨a, g, c, rfl, hs, hg, ho⟩ := seq_of_row hr
  have hlt := fun h => srcV_lt hs h
  cases h : traceZ (zs m)
  · have F := Lib.hid (isTrace_f (zs m) false h (by rw [zs_len]; exact hl)).out
    have FC := Lib.hid (F.out w a g c (by rw [zs_ints]; exact hs))
    rw [zs_len] at FC
    have HN := Lib.hid h
    have HB := Lib.hid hb
    clear F h hs hg ho hlt hr hb
    go_enter Try.func60, Try.ntmps60
    go_wp2_with fail
    refine FC.out.mono ?_
    rintro e w1 ⟨rfl, hb⟩
    have HB1 := Lib.hid (HB.out.trans (hb.mono HB.out.size))
    clear hb
    go_wp2
    (first | go_ret | go_ret2)
    exact ⟨_, _, rfl, fin_none HN.out (by first | exact HB1.out | exact HB1.out.alloc HB1.out.size _)⟩
  · have F := Lib.hid (isTrace_f (zs m) true h (by rw [zs_len]; exact hl)).out
    have FC := Lib.hid (F.out w a g c (by rw [zs_ints]; exact hs))
    rw [zs_len] at FC
    have HN := Lib.hid h
    have HB := Lib.hid hb
    have HS := Lib.hid (And.intro hs (And.intro hg (And.intro ho hlt)))
    clear F h hs hg ho hlt hr hb
    go_enter Try.func60, Try.ntmps60
    go_wp2_with fail
    refine FC.out.mono ?_
    rintro e w1 ⟨rfl, hb⟩
    have HB1 := Lib.hid (HB.out.trans (hb.mono HB.out.size))
    have HS1 := Lib.hid (HS.out.1.below hb)
    have HO1 : Hid (∀ j, j < (ints m).length → w1.frozen? ⟨g, j, none⟩ = false) := Lib.hid fun j hj => (hb.frozen (p := ⟨g, j, none⟩) (HS.out.2.2.2 (by omega))).trans (HS.out.2.2.1 j hj)
    clear hb
    go_wp2
    (first | go_ret | go_ret2)
    exact ⟨_, _, rfl, fin_some HN.out HS1.out HS.out.2.1 HO1.out HB1.out⟩
theorem nat_wrap {n : Nat} (h : n ≤ 1000000000000) : wrap64 (n : Int) = (n : Int) := IntWalk.wrap64_in _ (by omega)
theorem nat_wrap2 {n : Nat} (h : n ≤ 1000000000000) : IntKind.i64.wrap (n : Int) = (n : Int) := by rw [IntKind.wrap_i64]; omega
theorem quo_facts (x t b : Nat) (hx : x ≤ 999) (ht : t ≤ 99) (hb0 : 1 ≤ b) (hb : b ≤ 99) : ∃ p q : Nat, x * t / b = q ∧ (x : Int) * (t : Int) = (p : Int) ∧ wrap64 (p : Int) = (p : Int) ∧ IntKind.i64.wrap (p : Int) = (p : Int) ∧ ¬ (b : Int) = 0 ∧ ((b : Int) == 0) = false ∧ Int.tdiv (p : Int) (b : Int) = (q : Int) ∧ wrap64 (q : Int) = (q : Int) ∧ IntKind.i64.wrap (q : Int) = (q : Int) := by
  have h : x * t ≤ 999 * 99 := Nat.mul_le_mul hx ht
  have h2 : x * t / b ≤ x * t := Nat.div_le_self _ _
  have e : Int.tdiv ((x * t : Nat) : Int) (b : Int) = ((x * t / b : Nat) : Int) := by
    rw [Int.tdiv_eq_ediv_of_nonneg (by omega)]
    rfl
  have e2 : (x : Int) * (t : Int) = ((x * t : Nat) : Int) := (Int.natCast_mul _ _).symm
  generalize x * t / b = q at h2 e ⊢
  generalize x * t = p at h h2 e e2
  exact ⟨p, q, rfl, e2, nat_wrap (by omega), nat_wrap2 (by omega), by omega, beq_false_of_ne (by omega), e, nat_wrap (by omega), nat_wrap2 (by omega)⟩
theorem sStretchTrace_no1 (a : Option Addr) (g c : Nat) (l : List Int) (x y : Int) (w : World) (hs : SrcV w a g (intz l)) (hl : l.length ≤ 1048576) (h0 : traceZ l = false) :
    Calls Try.prog 31 #[.slice a l.length c, .int .i64 x, .int .i64 y] w (SeqOut (ints []) ([] : List Nat).length false w) := by
  have F0 := sTrace_f l false h0 hl
  have HS := Lib.hid hs
  clear hs h0
  go_enter Try.func31, Try.ntmps31
  go_wp2_with fail
  refine (F0.out _ _ _ _ (HS.out.below (by first | exact Below.refl _ _ | exact below_alloc _ _))).mono ?_
  rintro e w1 ⟨rfl, hb⟩
  have HB : Hid (Below w.heap.size w w1) := Lib.hid (by first | exact hb | exact (below_alloc w _).trans (hb.mono (below_alloc w _).size))
  clear hb
  go_wp2
  (first | go_ret | go_ret2)
  exact seq_no _ _ (by first | exact HB.out | exact HB.out.alloc HB.out.size _)
theorem sStretchTrace_no2 (a : Option Addr) (g c : Nat) (l : List Int) (x y : Int) (w : World) (hs : SrcV w a g (intz l)) (hl : l.length ≤ 1048576) (h0 : traceZ l = true) (h1 : okUnit x = false) :
    Calls Try.prog 31 #[.slice a l.length c, .int .i64 x, .int .i64 y] w (SeqOut (ints []) ([] : List Nat).length false w) := by
  have F0 := sTrace_f l true h0 hl
  have F1 := sUnit_f x false h1
  have HS := Lib.hid hs
  clear hs h0 h1
  go_enter Try.func31, Try.ntmps31
  go_wp2_with fail
  refine (F0.out _ _ _ _ (HS.out.below (by first | exact Below.refl _ _ | exact below_alloc _ _))).mono ?_
  rintro e w1 ⟨rfl, hb⟩
  have HB : Hid (Below w.heap.size w w1) := Lib.hid (by first | exact hb | exact (below_alloc w _).trans (hb.mono (below_alloc w _).size))
  clear hb
  go_wp2_with fail
  refine (F1.out _).mono ?_
  rintro e wz1 ⟨rfl, hww⟩
  obtain rfl := hww.symm
  go_wp2
  (first | go_ret | go_ret2)
  exact seq_no _ _ (by first | exact HB.out | exact HB.out.alloc HB.out.size _)
theorem sStretchTrace_no3 (a : Option Addr) (g c : Nat) (l : List Int) (x y : Int) (w : World) (hs : SrcV w a g (intz l)) (hl : l.length ≤ 1048576) (h0 : traceZ l = true) (h1 : okUnit x = true) (h2 : okUnit y = false) :
    Calls Try.prog 31 #[.slice a l.length c, .int .i64 x, .int .i64 y] w (SeqOut (ints []) ([] : List Nat).length false w) := by
  have F0 := sTrace_f l true h0 hl
  have F1 := sUnit_f x true h1
  have F2 := sUnit_f y false h2
  have HS := Lib.hid hs
  clear hs h0 h1 h2
  go_enter Try.func31, Try.ntmps31
  go_wp2_with fail
  refine (F0.out _ _ _ _ (HS.out.below (by first | exact Below.refl _ _ | exact below_alloc _ _))).mono ?_
  rintro e w1 ⟨rfl, hb⟩
  have HB : Hid (Below w.heap.size w w1) := Lib.hid (by first | exact hb | exact (below_alloc w _).trans (hb.mono (below_alloc w _).size))
  clear hb
  go_wp2_with fail
  refine (F1.out _).mono ?_
  rintro e wz1 ⟨rfl, hww⟩
  obtain rfl := hww.symm
  go_wp2_with fail
  refine (F2.out _).mono ?_
  rintro e wz2 ⟨rfl, hww⟩
  obtain rfl := hww.symm
  go_wp2
  (first | go_ret | go_ret2)
  exact seq_no _ _ (by first | exact HB.out | exact HB.out.alloc HB.out.size _)
set_option maxHeartbeats 8000000 in
set_option maxRecDepth 8000 in
theorem sStretchTrace_yes (a : Option Addr) (g c : Nat) (m : List Nat) (t b : Nat) (w : World) (hs : SrcV w a g (ints m)) (hm : IsTr m) (ht0 : 1 ≤ t) (ht : t ≤ 99) (hb0 : 1 ≤ b) (hb1 : b ≤ 99) :
    Calls Try.prog 31 #[.slice a m.length c, .int .i64 t, .int .i64 b] w (FinOut (strTo m t b m.length) w) := by
  obtain ⟨i0, hi, hz0, hz1, hz2⟩ := info_parts infoIntI
  have F := sTrace_m m hm
  have G1 := sUnit_f (t : Int) true (okUnit_of t ht0 ht)
  have G2 := sUnit_f (b : Int) true (okUnit_of b hb0 hb1)
  have HM := Lib.hid hm
  have hl := hm.len
  have HS := Lib.hid fun W hb => hs.below (w' := W) hb
  have HS0 := Lib.hid hs
  have HX := Lib.hid hs.1
  clear hs hm
  go_enter Try.func31, Try.ntmps31
  go_wp2_with fail
  refine (F.out _ _ _ _ HS0.out).mono ?_
  rintro e w1 ⟨rfl, hb⟩
  have HB := Lib.hid hb
  clear hb
  go_wp2_with fail
  refine (G1.out _).mono ?_
  rintro e w2 ⟨rfl, hww⟩
  obtain rfl := hww.symm
  go_wp2_with fail
  refine (G2.out _).mono ?_
  rintro e w2 ⟨rfl, hww⟩
  obtain rfl := hww.symm
  have M0 : Hid ((w1.alloc (Obj.cells #[] 3)).ownsRow w.heap.size 3 1 (.slice (some ⟨w1.heap.size, 0, none⟩) 0 0) 0 (ints [])) := Lib.hid (World.ownsRow_made (base := w.heap.size) w1 #[] 0 HB.out.size (by unfold maxLen; omega) rfl)
  go_wp2
  go_loopw [8, 9] (fun pv v wr => ∃ k : Nat, v = .int .i64 k ∧ k ≤ m.length ∧ wr.ownsRow w.heap.size 3 1 pv k (ints (strTo m t b k)) ∧ Hid (Below w.heap.size w wr)) (fun _ v _ => m.length - (intOf v).toNat)
  case atStart => exact ⟨0, rfl, Nat.zero_le _, M0.out, Lib.hid (HB.out.alloc HB.out.size _)⟩
  case round =>
    obtain ⟨k, rfl, hk, hown, HB3⟩ := hrel
    by_cases hlt : k < m.length
    · obtain ⟨av, capv, rfl⟩ := row_form hown
      obtain rfl := HX.out (by rw [ints_len]; omega)
      have d1 := (HS.out wr HB3.out).2 k _ (ints_at hlt)
      have HN : Hid (strTo m t b (k + 1) = strTo m t b k ++ [m[k] * t / b]) := Lib.hid (strTo_succ hlt)
      have hx := (HM.out.at hlt).2
      generalize m[k] = x at d1 HN hx
      obtain ⟨p, q, hq, p1, p2, p3, p4, p5, p6, p7, p8⟩ := quo_facts x t b hx ht hb0 hb1
      rw [hq] at HN
      generalize strTo m t b k = sk at hown HN
      have k0 : (0 : Int) ≤ (k : Int) := by omega
      have k1 : (k : Int) < (m.length : Int) := by omega
      have HL : Hid (∀ q, (Value.slice av k capv).ownBlock = some q → w.heap.size ≤ q ∧ q < wr.heap.size) := Lib.hid hown.lt
      have hsz := HB3.out.size
      clear hq
      go_wp2_with (at_builtin; refine wpList_append_own _ rfl _ _ 22 rfl w.heap.size 3 i0 (.int .i64 0) 1 8 Try.underlying22 hi hz0 hz1 hz2 rfl (by decide) _ _ _ rfl (hown.alloc _) ⟨wr.heap.size, 0, none⟩ 1 1 [.int .i64 (q : Int)] rfl rfl (cell_one_new _ _ _) (by simp [Value.oneCell']) (by unfold maxLen; omega) (by omega) (by simp; omega) ?_; intro v' w7 hown' hgrow _)
      have HW7 : Hid (w7.ownsRow w.heap.size 3 1 v' (k + 1) (ints (sk ++ [q]))) := Lib.hid (by rw [ints_snoc]; simpa using hown')
      have HB7 : Hid (Below w.heap.size w w7) := Lib.hid ((HB3.out.alloc HB3.out.size _).grown hgrow (by have := HB3.out.size; simp; omega) (fun q e => (HL.out q e).1))
      clear hown' hgrow hown
      go_wp2
      go_roundw
      case rel => exact ⟨k + 1, by go_num, by omega, by rw [HN.out]; exact HW7.out, HB7⟩
      case measure => simp [intOf]; omega
    · obtain rfl : k = m.length := by omega
      go_wp2_with fail
      refine (sMade_out _ (strTo m t b m.length) _ w (by rw [strTo_len (Nat.le_refl _)]; exact hown) (by rw [strTo_len (Nat.le_refl _)]; omega) HB3.out).mono ?_
      rintro e w8 ⟨v, ok, rfl, hf⟩
      have HFo := Lib.hid hf
      clear hf
      go_wp2
      (first | go_ret | go_ret2)
      exact HFo.out
theorem stretchTrace_no1 (a : Option Addr) (g c : Nat) (l : List Int) (x y : Int) (w : World) (hs : SrcV w a g (intz l)) (hl : l.length ≤ 1048576) (h0 : traceZ l = false) :
    Calls Try.prog 32 #[.slice a l.length c, .int .i64 x, .int .i64 y] w (SeqOut (ints []) ([] : List Nat).length false w) := by
  have F0 := isTrace_f l false h0 hl
  have HS := Lib.hid hs
  clear hs h0
  go_enter Try.func32, Try.ntmps32
  go_wp2_with fail
  refine (F0.out _ _ _ _ (HS.out.below (by first | exact Below.refl _ _ | exact below_alloc _ _))).mono ?_
  rintro e w1 ⟨rfl, hb⟩
  have HB : Hid (Below w.heap.size w w1) := Lib.hid (by first | exact hb | exact (below_alloc w _).trans (hb.mono (below_alloc w _).size))
  clear hb
  go_wp2
  (first | go_ret | go_ret2)
  exact seq_no _ _ (by first | exact HB.out | exact HB.out.alloc HB.out.size _)
theorem stretchTrace_no2 (a : Option Addr) (g c : Nat) (l : List Int) (x y : Int) (w : World) (hs : SrcV w a g (intz l)) (hl : l.length ≤ 1048576) (h0 : traceZ l = true) (h1 : okUnit x = false) :
    Calls Try.prog 32 #[.slice a l.length c, .int .i64 x, .int .i64 y] w (SeqOut (ints []) ([] : List Nat).length false w) := by
  have F0 := isTrace_f l true h0 hl
  have F1 := isUnit_f x false h1
  have HS := Lib.hid hs
  clear hs h0 h1
  go_enter Try.func32, Try.ntmps32
  go_wp2_with fail
  refine (F0.out _ _ _ _ (HS.out.below (by first | exact Below.refl _ _ | exact below_alloc _ _))).mono ?_
  rintro e w1 ⟨rfl, hb⟩
  have HB : Hid (Below w.heap.size w w1) := Lib.hid (by first | exact hb | exact (below_alloc w _).trans (hb.mono (below_alloc w _).size))
  clear hb
  go_wp2_with fail
  refine (F1.out _).mono ?_
  rintro e wz1 ⟨rfl, hww⟩
  obtain rfl := hww.symm
  go_wp2
  (first | go_ret | go_ret2)
  exact seq_no _ _ (by first | exact HB.out | exact HB.out.alloc HB.out.size _)
theorem stretchTrace_no3 (a : Option Addr) (g c : Nat) (l : List Int) (x y : Int) (w : World) (hs : SrcV w a g (intz l)) (hl : l.length ≤ 1048576) (h0 : traceZ l = true) (h1 : okUnit x = true) (h2 : okUnit y = false) :
    Calls Try.prog 32 #[.slice a l.length c, .int .i64 x, .int .i64 y] w (SeqOut (ints []) ([] : List Nat).length false w) := by
  have F0 := isTrace_f l true h0 hl
  have F1 := isUnit_f x true h1
  have F2 := isUnit_f y false h2
  have HS := Lib.hid hs
  clear hs h0 h1 h2
  go_enter Try.func32, Try.ntmps32
  go_wp2_with fail
  refine (F0.out _ _ _ _ (HS.out.below (by first | exact Below.refl _ _ | exact below_alloc _ _))).mono ?_
  rintro e w1 ⟨rfl, hb⟩
  have HB : Hid (Below w.heap.size w w1) := Lib.hid (by first | exact hb | exact (below_alloc w _).trans (hb.mono (below_alloc w _).size))
  clear hb
  go_wp2_with fail
  refine (F1.out _).mono ?_
  rintro e wz1 ⟨rfl, hww⟩
  obtain rfl := hww.symm
  go_wp2_with fail
  refine (F2.out _).mono ?_
  rintro e wz2 ⟨rfl, hww⟩
  obtain rfl := hww.symm
  go_wp2
  (first | go_ret | go_ret2)
  exact seq_no _ _ (by first | exact HB.out | exact HB.out.alloc HB.out.size _)
set_option maxHeartbeats 8000000 in
set_option maxRecDepth 8000 in
theorem stretchTrace_yes (a : Option Addr) (g c : Nat) (m : List Nat) (t b : Nat) (w : World) (hs : SrcV w a g (ints m)) (hm : IsTr m) (ht0 : 1 ≤ t) (ht : t ≤ 99) (hb0 : 1 ≤ b) (hb1 : b ≤ 99) :
    Calls Try.prog 32 #[.slice a m.length c, .int .i64 t, .int .i64 b] w (FinOut (strTo m t b m.length) w) := by
  obtain ⟨i0, hi, hz0, hz1, hz2⟩ := info_parts infoIntI
  have F := isTrace_m m hm
  have G1 := isUnit_f (t : Int) true (okUnit_of t ht0 ht)
  have G2 := isUnit_f (b : Int) true (okUnit_of b hb0 hb1)
  have HM := Lib.hid hm
  have hl := hm.len
  have HS := Lib.hid fun W hb => hs.below (w' := W) hb
  have HS0 := Lib.hid hs
  have HX := Lib.hid hs.1
  clear hs hm
  go_enter Try.func32, Try.ntmps32
  go_wp2_with fail
  refine (F.out _ _ _ _ HS0.out).mono ?_
  rintro e w1 ⟨rfl, hb⟩
  have HB := Lib.hid hb
  clear hb
  go_wp2_with fail
  refine (G1.out _).mono ?_
  rintro e w2 ⟨rfl, hww⟩
  obtain rfl := hww.symm
  go_wp2_with fail
  refine (G2.out _).mono ?_
  rintro e w2 ⟨rfl, hww⟩
  obtain rfl := hww.symm
  have M0 : Hid ((w1.alloc (Obj.cells #[] 3)).ownsRow w.heap.size 3 1 (.slice (some ⟨w1.heap.size, 0, none⟩) 0 0) 0 (ints [])) := Lib.hid (World.ownsRow_made (base := w.heap.size) w1 #[] 0 HB.out.size (by unfold maxLen; omega) rfl)
  go_wp2
  go_loopw [8, 27] (fun pv v wr => ∃ k : Nat, v = .int .i64 k ∧ k ≤ m.length ∧ wr.ownsRow w.heap.size 3 1 pv k (ints (strTo m t b k)) ∧ Hid (Below w.heap.size w wr)) (fun _ v _ => m.length - (intOf v).toNat)
  case atStart => exact ⟨0, rfl, Nat.zero_le _, M0.out, Lib.hid (HB.out.alloc HB.out.size _)⟩
  case round =>
    obtain ⟨k, rfl, hk, hown, HB3⟩ := hrel
    by_cases hlt : k < m.length
    · obtain ⟨av, capv, rfl⟩ := row_form hown
      obtain rfl := HX.out (by rw [ints_len]; omega)
      have d1 := (HS.out wr HB3.out).2 k _ (ints_at hlt)
      have HN : Hid (strTo m t b (k + 1) = strTo m t b k ++ [m[k] * t / b]) := Lib.hid (strTo_succ hlt)
      have hx := (HM.out.at hlt).2
      generalize m[k] = x at d1 HN hx
      obtain ⟨p, q, hq, p1, p2, p3, p4, p5, p6, p7, p8⟩ := quo_facts x t b hx ht hb0 hb1
      rw [hq] at HN
      generalize strTo m t b k = sk at hown HN
      have k0 : (0 : Int) ≤ (k : Int) := by omega
      have k1 : (k : Int) < (m.length : Int) := by omega
      have HL : Hid (∀ q, (Value.slice av k capv).ownBlock = some q → w.heap.size ≤ q ∧ q < wr.heap.size) := Lib.hid hown.lt
      have hsz := HB3.out.size
      clear hq
      go_wp2_with (at_builtin; refine wpList_append_own _ rfl _ _ 22 rfl w.heap.size 3 i0 (.int .i64 0) 1 8 Try.underlying22 hi hz0 hz1 hz2 rfl (by decide) _ _ _ rfl (hown.alloc _) ⟨wr.heap.size, 0, none⟩ 1 1 [.int .i64 (q : Int)] rfl rfl (cell_one_new _ _ _) (by simp [Value.oneCell']) (by unfold maxLen; omega) (by omega) (by simp; omega) ?_; intro v' w7 hown' hgrow _)
      have HW7 : Hid (w7.ownsRow w.heap.size 3 1 v' (k + 1) (ints (sk ++ [q]))) := Lib.hid (by rw [ints_snoc]; simpa using hown')
      have HB7 : Hid (Below w.heap.size w w7) := Lib.hid ((HB3.out.alloc HB3.out.size _).grown hgrow (by have := HB3.out.size; simp; omega) (fun q e => (HL.out q e).1))
      clear hown' hgrow hown
      go_wp2
      go_roundw
      case rel => exact ⟨k + 1, by go_num, by omega, by rw [HN.out]; exact HW7.out, HB7⟩
      case measure => simp [intOf]; omega
    · obtain rfl : k = m.length := by omega
      go_wp2_with fail
      refine (ifTrace_out _ (strTo m t b m.length) _ w (by rw [strTo_len (Nat.le_refl _)]; exact hown) (by rw [strTo_len (Nat.le_refl _)]; omega) HB3.out).mono ?_
      rintro e w8 ⟨v, ok, rfl, hf⟩
      have HFo := Lib.hid hf
      clear hf
      go_wp2
      (first | go_ret | go_ret2)
      exact HFo.out
theorem finR_len {m : List Nat} {n : Nat} (h : m.length ≤ n) : (finR m).1.length ≤ n := by
  unfold finR
  split
  · exact h
  · simp
theorem stretchTrace_both (l0 : List Int) (x y : Int) (hl : l0.length ≤ 1048576) (hi : InI l0) (wx : (Lit.int .i64 x).wf = true) (wy : (Lit.int .i64 y).wf = true) : ∃ (l : List Nat) (R1 : Bool), l.length ≤ 1048576 ∧
    Hid (∀ W a g c, SrcV W a g (intz l0) → Calls Try.prog 31 #[.slice a l0.length c, .int .i64 x, .int .i64 y] W (SeqOut (ints l) l.length R1 W)) ∧
    Hid (∀ W a g c, SrcV W a g (intz l0) → Calls Try.prog 32 #[.slice a l0.length c, .int .i64 x, .int .i64 y] W (SeqOut (ints l) l.length R1 W)) := by
  cases h : traceZ l0
  · exact ⟨[], false, by simp, fun W a g c hs => sStretchTrace_no1 a g c l0 x y W hs hl h, fun W a g c hs => stretchTrace_no1 a g c l0 x y W hs hl h⟩
  · cases h2 : okUnit x
    · exact ⟨[], false, by simp, fun W a g c hs => sStretchTrace_no2 a g c l0 x y W hs hl h h2, fun W a g c hs => stretchTrace_no2 a g c l0 x y W hs hl h h2⟩
    · cases h3 : okUnit y
      · exact ⟨[], false, by simp, fun W a g c hs => sStretchTrace_no3 a g c l0 x y W hs hl h h2 h3, fun W a g c hs => stretchTrace_no3 a g c l0 x y W hs hl h h2 h3⟩
      · obtain ⟨m, rfl, hm⟩ := traceZ_nat h
        obtain ⟨t, rfl, ht0, ht⟩ := okUnit_nat h2
        obtain ⟨b, rfl, hb0, hb⟩ := okUnit_nat h3
        rw [zs_len, zs_ints]
        exact ⟨(finR (strTo m t b m.length)).1, (finR (strTo m t b m.length)).2, finR_len (by rw [strTo_len (Nat.le_refl _)]; have := hm.len; omega), fun W a g c hs => sStretchTrace_yes a g c m t b W hs hm ht0 ht hb0 hb, fun W a g c hs => stretchTrace_yes a g c m t b W hs hm ht0 ht hb0 hb⟩
end Go.Proofs.Ytgfmcpipbmnagaa
