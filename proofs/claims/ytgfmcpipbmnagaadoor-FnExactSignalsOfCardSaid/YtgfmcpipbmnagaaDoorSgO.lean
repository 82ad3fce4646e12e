/-
  SignalsOf, the program's and the model's; the laws' own functions on lists of texts. Used by the claim on SignalsOf.
-/
import Derived.Test.YtgfmcpipbmnagaaDoorErrI
import Derived.Test.YtgfmcpipbmnagaaDoorSTableW
import Derived.Test.YtgfmcpipbmnagaaDoorMarkW
import Derived.Test.YtgfmcpipbmnagaaDoorShelf
namespace Go.Proofs.YtgfmcpipbmnagaaDoor
open Go.RowKit
set_option linter.unusedVariables false

def sts (l : List ByteArray) : List Value := l.map Value.string
theorem sts_len (l : List ByteArray) : (sts l).length = l.length := by simp [sts]
theorem sts_at {l : List ByteArray} {k : Nat} (h : k < l.length) : (sts l)[k]? = some (.string l[k]) := by simp [sts, h]
theorem sts_snoc (l : List ByteArray) (x : ByteArray) : sts (l ++ [x]) = sts l ++ [.string x] := by simp [sts]
theorem src_sts {w : World} {a : Option Addr} {g : Nat} {l : List ByteArray} (h : SrcV w a g (sts l)) : Src w a g 0 l := by
  refine ⟨fun h0 => h.1 (by rw [sts_len]; exact h0), fun j x hx => ?_⟩
  rw [Nat.zero_add]
  exact h.2 j _ (by simp [sts, hx])
theorem eqTx_yes (a1 a2 : Option Addr) (g1 g2 c1 c2 : Nat) (l : List ByteArray) (w : World) (hl : l.length ≤ 1048576) (h1 : SrcV w a1 g1 (sts l)) (h2 : SrcV w a2 g2 (sts l)) :
    Calls Tryd.prog 17 #[.slice a1 l.length c1, .slice a2 l.length c2] w fun e w' => e = .returned (.bool true) ∧ Below w.heap.size w w' :=
  (eqS_yes a1 a2 g1 0 c1 g2 0 c2 l w hl (src_sts h1) (src_sts h2)).mono fun e w' ⟨h, k, hw⟩ => ⟨h, by rw [hw]; exact ⟨rfl, rfl, rfl, Nat.le_refl _, fun _ _ => rfl⟩⟩
theorem markTx_any (a : Option Addr) (g : Nat) (l : List ByteArray) (c : Nat) (w : World) (ha : 0 < (sts l).length → a = some ⟨g, 0, none⟩) (h2 : l.length ≤ 1048576) (ho : ∀ j, j < (sts l).length → (∃ v, w.cell? ⟨g, j, none⟩ = some v) ∧ w.frozen? ⟨g, j, none⟩ = false) :
    Calls Tryd.prog 18 #[.slice a l.length c, .int .i64 1] w fun e w' => e = .returned (.int .i64 ((1 + (sts l).length : Nat) : Int)) ∧ w.grownBy w' (some g) ∧ ∀ j, j < (sts l).length → w'.cell? ⟨g, j, none⟩ = some (.string (mark (1 + j))) := by
  rw [sts_len] at ha ho ⊢
  exact (mark_any a g l.length c 1 w ha (Nat.le_refl _) (by omega) ho).mono fun e w' ⟨h, hm⟩ => ⟨h, hm.grown, hm.done⟩
theorem heldTx_any (a : Option Addr) (g : Nat) (l : List ByteArray) (c : Nat) (w : World) (ha : 0 < (sts l).length → a = some ⟨g, 0, none⟩) (h2 : l.length ≤ 1048576) (ho : ∀ j, j < (sts l).length → w.cell? ⟨g, j, none⟩ = some (.string (mark (1 + j)))) :
    Calls Tryd.prog 19 #[.slice a l.length c, .int .i64 1] w fun e w' => e = .returned (.int .i64 ((1 + (sts l).length : Nat) : Int)) ∧ Below w.heap.size w w' := by
  rw [sts_len] at ha ho ⊢
  exact held_any a g l.length c 1 w ha (Nat.le_refl _) (by omega) ho
theorem marksT_below {W W' : World} {q n : Nat} (h : ∀ j, j < n → W.cell? ⟨q, j, none⟩ = some (.string (mark (1 + j)))) (hb : Below W.heap.size W W') : ∀ j, j < n → W'.cell? ⟨q, j, none⟩ = some (.string (mark (1 + j))) := fun j hj =>
  (hb.cell (p := ⟨q, j, none⟩) (World.block_lt_of_cell? _ _ (h j hj))).trans (h j hj)
def sgB (m : List Nat) : Nat → List ByteArray
  | 0 => []
  | k + 1 => if (pieces (rdL m (k + 1))).isSome = true ∧ Lib.containsS (sgB m k) ⟨(rdL m (k + 1)).toArray⟩ = false then sgB m k ++ [⟨(rdL m (k + 1)).toArray⟩] else sgB m k
theorem sgB_yes {m : List Nat} {k : Nat} (h : (pieces (rdL m (k + 1))).isSome = true) (h2 : Lib.containsS (sgB m k) ⟨(rdL m (k + 1)).toArray⟩ = false) : sgB m (k + 1) = sgB m k ++ [⟨(rdL m (k + 1)).toArray⟩] := by rw [sgB, if_pos ⟨h, h2⟩]
theorem sgB_no {m : List Nat} {k : Nat} (h : ¬ ((pieces (rdL m (k + 1))).isSome = true ∧ Lib.containsS (sgB m k) ⟨(rdL m (k + 1)).toArray⟩ = false)) : sgB m (k + 1) = sgB m k := by rw [sgB, if_neg h]
theorem sgB_len (m : List Nat) : ∀ k, (sgB m k).length ≤ k
  | 0 => Nat.le_refl _
  | k + 1 => by
    have := sgB_len m k
    rw [sgB]
    split
    · simp; omega
    · omega
theorem app_st (n : Nat) (h : n ≤ 1048576) : n + 1 ≤ maxLen ∧ (n + 1) * 16 ≤ 140737488355328 := by
  unfold maxLen; omega
theorem seq_noS (a : Option Addr) (c : Nat) {W W' : World} (hb : Below W.heap.size W W') : SeqOut (sts []) ([] : List ByteArray).length false W (.returned (.tuple #[.slice a 0 c, .bool false])) W' :=
  ⟨a, W.heap.size, c, rfl, ⟨fun h => by simp [sts] at h, fun j x hx => by simp [sts] at hx⟩, fun h => by simp [sts] at h, fun j hj => by simp [sts] at hj, hb⟩
theorem contains_any {W : World} {base : Nat} {v : Value} {xs : List ByteArray} (h : W.ownsRow base 9 1 v xs.length (sts xs)) (hl : xs.length ≤ 1048576) (x : ByteArray) : Calls Tryd.prog 47 #[v, .string x] W fun e w' => e = .returned (.bool (Lib.containsS xs x)) ∧ w' = W := by
  obtain ⟨a, g, c, rfl, hs, _, _⟩ := seq_of_row h
  have hs2 := src_sts hs
  by_cases h0 : 0 < xs.length
  · obtain rfl := hs2.1 h0
    have := Tryd.slices_Contains_string g 0 xs.length c xs x W (Nat.le_refl _) (by omega) (fun j hj => by
      rw [hs2.2 j _ (List.getElem?_eq_getElem hj), List.getD_eq_getElem?_getD, List.getElem?_eq_getElem hj]; rfl)
    rw [List.take_length] at this
    exact this
  · have hn : xs = [] := List.length_eq_zero_iff.1 (by omega)
    subst hn
    have e : Lib.containsS [] x = false := by
      cases hc : Lib.containsS [] x
      · rfl
      · have := (Lib.containsS_iff [] x).1 hc
        cases this
    rw [e]
    exact Tryd.slices_Contains_string_empty a c x W
theorem not_contains {xs : List ByteArray} {x : ByteArray} (h : x ∉ xs) : Lib.containsS xs x = false := by
  cases hc : Lib.containsS xs x
  · rfl
  · exact absurd ((Lib.containsS_iff xs x).1 hc) h
theorem placeI_any {W : World} {base : Nat} {v : Value} {xs : List ByteArray} (h : W.ownsRow base 9 1 v xs.length (sts xs)) (hl : xs.length ≤ 1048576) (x : ByteArray) : ∃ z : Int, (z < 0 ↔ Lib.containsS xs x = false) ∧ Calls Tryd.prog 46 #[v, .string x] W fun e w' => e = .returned (.int .i64 z) ∧ w' = W := by
  obtain ⟨a, g, c, rfl, hs, _, _⟩ := seq_of_row h
  refine ⟨idx (placeB xs x), ?_, place_any a g 0 c xs x W (src_sts hs) hl⟩
  cases hp : placeB xs x with
  | none => exact ⟨fun _ => not_contains (placeB_none.1 hp), fun _ => by show (-1 : Int) < 0; decide⟩
  | some j =>
    constructor
    · intro hz
      have : ((j : Nat) : Int) < 0 := hz
      omega
    · intro hm
      rw [(Lib.containsS_iff xs x).2 (List.mem_of_getElem? (placeB_some.1 hp).1)] at hm
      cases hm
theorem sSignalsOf_no1 (a : Option Addr) (g c : Nat) (l : List Int) (w : World) (hs : SrcV w a g (intz l)) (hl : l.length ≤ 1048576) (h : traceZ l = false) :
    Calls Tryd.prog 15 #[.slice a l.length c] w (SeqOut (sts []) ([] : List ByteArray).length false w) := by
  have F1 := sTrace_f l false h hl
  have HS := Lib.hid fun W hb => hs.below (w' := W) hb
  clear h hs
  go_enter Tryd.func15, Tryd.ntmps15
  go_wp2_with fail
  refine (F1.out _ _ _ _ (HS.out _ (below_alloc _ _))).mono ?_
  rintro e w1 ⟨rfl, hb⟩
  have HB : Hid (Below w.heap.size w w1) := Lib.hid ((below_alloc w _).trans (hb.mono (below_alloc w _).size))
  clear hb
  go_wp2
  (first | go_ret | go_ret2)
  exact seq_noS _ _ HB.out
set_option maxHeartbeats 8000000 in
set_option maxRecDepth 8000 in
theorem sSignalsOf_yes (a : Option Addr) (g c : Nat) (m : List Nat) (w : World) (hs : SrcV w a g (ints m)) (hm : IsTr m) :
    Calls Tryd.prog 15 #[.slice a m.length c] w (SeqOut (sts (sgB m 99)) (sgB m 99).length true w) := by
  obtain ⟨i0, hi, hz0, hz1, hz2⟩ := info_parts infoStr
  have F1 := sTrace_m m hm
  have HRd := Lib.hid fun u (hu : u ≤ 99) W hs => sRead_any a g c m u W hs hm hu
  have HSg := Lib.hid fun u W => sSignal_any ⟨(rdL m u).toArray⟩ W (by
    have := rdTo_len m u m.length
    have := hm.len
    show (rdL m u).toArray.size ≤ _
    rw [List.size_toArray]; unfold rdL; omega)
  have HS := Lib.hid fun W hb => hs.below (w' := W) hb
  have M0 : Hid ((w.alloc (Obj.cells #[] 9)).ownsRow w.heap.size 9 1 (.slice (some ⟨w.heap.size, 0, none⟩) 0 0) ([] : List ByteArray).length (sts [])) := Lib.hid (World.ownsRow_made (base := w.heap.size) w #[] 0 (Nat.le_refl _) (by unfold maxLen; omega) rfl)
  clear hs hm
  go_enter Tryd.func15, Tryd.ntmps15
  go_wp2_with fail
  refine (F1.out _ _ _ _ (HS.out _ (below_alloc _ _))).mono ?_
  rintro e w1 ⟨rfl, hb⟩
  have HB : Hid (Below w.heap.size w w1) := Lib.hid ((below_alloc w _).trans (hb.mono (below_alloc w _).size))
  have M1 := Lib.hid (row_below M0.out hb)
  clear hb
  go_wp2
  go_loopw [4, 5] (fun pv v wr => ∃ k : Nat, v = .int .i64 ((k + 1 : Nat) : Int) ∧ k ≤ 99 ∧ wr.ownsRow w.heap.size 9 1 pv (sgB m k).length (sts (sgB m k)) ∧ Hid (Below w.heap.size w wr)) (fun _ v _ => 101 - (intOf v).toNat)
  case atStart => exact ⟨0, rfl, by omega, M1.out, HB⟩
  case round =>
    obtain ⟨k, rfl, hk, hown, HB3⟩ := hrel
    have e0 : ((k + 1 : Nat) : Int) = (k : Int) + 1 := by omega
    rw [e0]
    by_cases hlt : k < 99
    · obtain ⟨av, capv, rfl⟩ := row_form hown
      have HC := Lib.hid (HRd.out (k + 1) (by omega) _ (HS.out _ HB3.out))
      rw [e0] at HC
      have hln := sgB_len m k
      obtain ⟨x1, x2⟩ := app_st (sgB m k).length (by omega)
      have HO := Lib.hid hown
      have HG := Lib.hid fun W => HSg.out (k + 1) W
      have HY := Lib.hid (sgB_yes (m := m) (k := k))
      have HNo := Lib.hid (sgB_no (m := m) (k := k))
      rw [bl_of] at HG
      clear hown
      generalize hsg : (pieces (rdL m (k + 1))).isSome = B at HG HY HNo
      generalize sgB m k = r at HO HY HNo hln x1 x2
      generalize (⟨(rdL m (k + 1)).toArray⟩ : ByteArray) = X at HC HG HY HNo
      have hl6 : r.length ≤ 1048576 := by omega
      clear hsg
      cases B
      · have HN := Lib.hid (HNo.out (fun h => by cases h.1))
        clear HY HNo x1 x2 hl6
        go_wp2_with fail
        refine HC.out.mono ?_
        rintro e w4 ⟨rfl, hb⟩
        have HB4 := Lib.hid (HB3.out.trans (hb.mono HB3.out.size))
        have HO4 := Lib.hid (row_below HO.out hb)
        clear hb
        go_wp2_with fail
        refine (HG.out _).mono ?_
        rintro e w5 ⟨rfl, hb⟩
        have HB5 := Lib.hid (HB4.out.trans (hb.mono HB4.out.size))
        have hown4 := row_below HO4.out hb
        clear hb
        go_wp2
        go_roundw
        case rel => exact ⟨k + 1, by go_num, by omega, by rw [HN.out]; exact hown4, HB5⟩
        case measure => simp [intOf]; omega
      · go_wp2_with fail
        refine HC.out.mono ?_
        rintro e w4 ⟨rfl, hb⟩
        have HB4 := Lib.hid (HB3.out.trans (hb.mono HB3.out.size))
        have HO4 := Lib.hid (row_below HO.out hb)
        clear hb
        go_wp2_with fail
        refine (HG.out _).mono ?_
        rintro e w5 ⟨rfl, hb⟩
        have HB5 := Lib.hid (HB4.out.trans (hb.mono HB4.out.size))
        have hown4 := row_below HO4.out hb
        clear hb
        obtain ⟨z, hz, hpl⟩ := placeI_any hown4 hl6 X
        have HPl := Lib.hid hpl
        clear hpl
        cases hmem : Lib.containsS r X
        rotate_left
        · have HN := Lib.hid (HNo.out (fun h => by rw [hmem] at h; cases h.2))
          have hz' : ¬ z < 0 := fun h => by rw [hz.1 h] at hmem; cases hmem
          clear HY HNo x1 x2 hl6 hz hmem
          go_wp2_with fail
          refine HPl.out.mono ?_
          rintro e w6 ⟨rfl, hww⟩
          obtain rfl := hww.symm
          go_wp2
          go_roundw
          case rel => exact ⟨k + 1, by go_num, by omega, by rw [HN.out]; exact hown4, HB5⟩
          case measure => simp [intOf]; omega
        · have HN := Lib.hid (HY.out (by first | rfl | trivial) hmem)
          have hz' : z < 0 := hz.2 hmem
          clear HY HNo hl6 hz hmem
          go_wp2_with fail
          refine HPl.out.mono ?_
          rintro e w6 ⟨rfl, hww⟩
          obtain rfl := hww.symm
          have HL : Hid (∀ q, (Value.slice av r.length capv).ownBlock = some q → w.heap.size ≤ q ∧ q < w5.heap.size) := Lib.hid hown4.lt
          have hsz4 := HB5.out.size
          have HRl : Hid ((r ++ [X]).length = r.length + 1) := Lib.hid (by simp)
          go_wp2_with (at_builtin; refine wpList_append_own _ rfl _ _ 32 rfl w.heap.size 9 i0 (.string ByteArray.empty) 1 16 Tryd.underlying32 hi hz0 hz1 hz2 rfl (by decide) _ _ _ rfl (hown4.alloc _) ⟨w5.heap.size, 0, none⟩ 1 1 [.string X] rfl rfl (cell_one_new _ _ _) (by simp [Value.oneCell']) x1 x2 (Nat.le_trans hsz4 (below_alloc w5 _).size) ?_; intro v' w7 hown' hgrow _)
          have HW7 : Hid (w7.ownsRow w.heap.size 9 1 v' (sgB m (k + 1)).length (sts (sgB m (k + 1)))) := Lib.hid (by rw [HN.out, HRl.out, sts_snoc]; exact hown')
          have HB7 : Hid (Below w.heap.size w w7) := Lib.hid ((HB5.out.alloc HB5.out.size _).grown hgrow (Nat.le_trans HB5.out.size (below_alloc w5 _).size) (fun q e => (HL.out q e).1))
          clear hown' hgrow hown4 x1 x2 hsz4
          go_wp2
          go_roundw
          case rel => exact ⟨k + 1, by go_num, by omega, HW7.out, HB7⟩
          case measure => simp [intOf]; omega
    · obtain rfl : k = 99 := by omega
      obtain ⟨a', g', c', rfl, hs', hg', ho'⟩ := seq_of_row hown
      have HSq := Lib.hid (And.intro hs' (And.intro hg' ho'))
      clear hs' hg' ho' hown
      go_wp2
      (first | go_ret | go_ret2)
      exact ⟨_, g', _, rfl, HSq.out.1, HSq.out.2.1, HSq.out.2.2, HB3.out⟩
set_option maxHeartbeats 4000000 in
theorem signalsOf_no1 (a : Option Addr) (g c : Nat) (l : List Int) (a0 a1 : Addr) (w : World) (hs : SrcV w a g (intz l)) (hl : l.length ≤ 1048576) (hS : Sent w a0 a1) (h : traceZ l = false) :
    Calls Tryd.prog 16 #[.slice a l.length c] w (SeqOut (sts []) ([] : List ByteArray).length false w) := by
  have HS := Lib.hid fun W hb => hs.below (w' := W) hb
  have HE := Lib.hid fun W hb => hS.below (W' := W) hb
  have HR := Lib.hid fun W hs hS => readTr_no1 a g c l 1 a0 a1 W hs hl hS h
  clear hs hS h
  go_enter Tryd.func16, Tryd.ntmps16
  go_wp2
  go_loopw [4, 5] (fun pv v wr => v = .int .i64 1 ∧ Hid (Below w.heap.size w wr)) (fun _ v _ => 1)
  case atStart => exact ⟨rfl, Lib.hid (below_alloc _ _)⟩
  case round =>
    obtain ⟨rfl, HB3⟩ := hrel
    go_wp2_with fail
    refine (HR.out _ (HS.out _ HB3.out) (HE.out _ HB3.out)).mono ?_
    rintro e w4 ⟨rfl, hb⟩
    have HB4 := Lib.hid (HB3.out.trans (hb.mono HB3.out.size))
    have HE4 := Lib.hid (HE.out _ HB4.out)
    have d0 := HE4.out.c0
    obtain ⟨cb0, tb0, hb0⟩ := HE4.out.b0
    obtain ⟨cb1, tb1, hb1⟩ := HE4.out.b1
    have HI := Lib.hid (es_other a1 a0 cb1 cb0 tb1 tb0 w4 (fun e => HE4.out.ne e.symm) hb1 hb0)
    clear hb hb0 hb1
    go_wp2_with fail
    refine HI.out.mono ?_
    rintro e w5 ⟨rfl, hww⟩
    obtain rfl := hww.symm
    go_wp2
    (first | go_ret | go_ret2)
    exact seq_noS _ _ HB4.out
set_option maxHeartbeats 8000000 in
set_option maxRecDepth 8000 in
theorem signalsOf_yes (a : Option Addr) (g c : Nat) (m : List Nat) (a0 a1 : Addr) (w : World) (hs : SrcV w a g (ints m)) (hm : IsTr m) (hS : Sent w a0 a1) :
    Calls Tryd.prog 16 #[.slice a m.length c] w (SeqOut (sts (sgB m 99)) (sgB m 99).length true w) := by
  obtain ⟨i0, hi, hz0, hz1, hz2⟩ := info_parts infoStr
  have HS := Lib.hid fun W hb => hs.below (w' := W) hb
  have HE := Lib.hid fun W hb => hS.below (W' := W) hb
  have HR := Lib.hid fun u (h0 : 1 ≤ u) (hu : u ≤ 99) W hs hS => readTr_yes a g c m u a0 a1 W hs hm h0 hu hS
  have M0 : Hid ((w.alloc (Obj.cells #[] 9)).ownsRow w.heap.size 9 1 (.slice (some ⟨w.heap.size, 0, none⟩) 0 0) ([] : List ByteArray).length (sts [])) := Lib.hid (World.ownsRow_made (base := w.heap.size) w #[] 0 (Nat.le_refl _) (by unfold maxLen; omega) rfl)
  clear hs hS hm
  go_enter Tryd.func16, Tryd.ntmps16
  go_wp2
  go_loopw [4, 5] (fun pv v wr => ∃ k : Nat, v = .int .i64 ((k + 1 : Nat) : Int) ∧ k ≤ 99 ∧ wr.ownsRow w.heap.size 9 1 pv (sgB m k).length (sts (sgB m k)) ∧ Hid (Below w.heap.size w wr)) (fun _ v _ => 101 - (intOf v).toNat)
  case atStart => exact ⟨0, rfl, by omega, M0.out, Lib.hid (below_alloc _ _)⟩
  case round =>
    obtain ⟨k, rfl, hk, hown, HB3⟩ := hrel
    have e0 : ((k + 1 : Nat) : Int) = (k : Int) + 1 := by omega
    rw [e0]
    by_cases hlt : k < 99
    · obtain ⟨av, capv, rfl⟩ := row_form hown
      have HC := Lib.hid (HR.out (k + 1) (by omega) (by omega) _ (HS.out _ HB3.out) (HE.out _ HB3.out))
      rw [e0] at HC
      have hln := sgB_len m k
      obtain ⟨x1, x2⟩ := app_st (sgB m k).length (by omega)
      have HO := Lib.hid hown
      have HY := Lib.hid (sgB_yes (m := m) (k := k))
      have HNo := Lib.hid (sgB_no (m := m) (k := k))
      have hl6 : (sgB m k).length ≤ 1048576 := by omega
      clear hown
      cases hsg : (pieces (rdL m (k + 1))).isSome
      · have HN := Lib.hid (HNo.out (fun h => by rw [hsg] at h; cases h.1))
        have HV : Hid (rtV m (k + 1) a0 = (ByteArray.empty, .iface 118 (.pointer (some a0)))) := Lib.hid (by unfold rtV; rw [hsg]; rfl)
        rw [HV.out] at HC
        generalize sgB m k = r at HO HN hln
        clear hsg x1 x2 HY HNo hl6
        go_wp2_with fail
        refine HC.out.mono ?_
        rintro e w4 ⟨rfl, hb⟩
        have HB4 := Lib.hid (HB3.out.trans (hb.mono HB3.out.size))
        have HO4 := Lib.hid (row_below HO.out hb)
        have d0 := (HE.out _ HB4.out).c0
        have HI := Lib.hid (es_same a0 w4)
        clear hb
        go_wp2_with fail
        refine HI.out.mono ?_
        rintro e w5 ⟨rfl, hww⟩
        obtain rfl := hww.symm
        have hown4 := HO4.out
        go_wp2
        go_roundw
        case rel => exact ⟨k + 1, by go_num, by omega, by rw [HN.out]; exact hown4, HB4⟩
        case measure => simp [intOf]; omega
      · have HV : Hid (rtV m (k + 1) a0 = (⟨(rdL m (k + 1)).toArray⟩, .nilIface)) := Lib.hid (by unfold rtV; rw [hsg]; rfl)
        rw [HV.out] at HC
        simp only at HC
        have HY2 := Lib.hid (HY.out hsg)
        clear HY
        generalize sgB m k = r at HO HY2 HNo hln x1 x2 hl6
        generalize (⟨(rdL m (k + 1)).toArray⟩ : ByteArray) = X at HC HY2 HNo
        clear hsg
        go_wp2_with fail
        refine HC.out.mono ?_
        rintro e w4 ⟨rfl, hb⟩
        have HB4 := Lib.hid (HB3.out.trans (hb.mono HB3.out.size))
        have hown4 := row_below HO.out hb
        have d0 := (HE.out _ HB4.out).c0
        have HI := Lib.hid (es_nil a0 w4)
        have HCt := Lib.hid (contains_any hown4 hl6 X)
        clear hb
        go_wp2_with fail
        refine HI.out.mono ?_
        rintro e w5 ⟨rfl, hww⟩
        obtain rfl := hww.symm
        cases hmem : Lib.containsS r X
        rotate_left
        · have HN := Lib.hid (HNo.out (fun h => by rw [hmem] at h; cases h.2))
          rw [hmem] at HCt
          clear HY2 HNo x1 x2 hl6 hmem
          go_wp2_with fail
          refine HCt.out.mono ?_
          rintro e w6 ⟨rfl, hww⟩
          obtain rfl := hww.symm
          clear d0
          go_wp2
          go_roundw
          case rel => exact ⟨k + 1, by go_num, by omega, by rw [HN.out]; exact hown4, HB4⟩
          case measure => simp [intOf]; omega
        · have HN := Lib.hid (HY2.out hmem)
          rw [hmem] at HCt
          clear HY2 HNo hl6 hmem
          go_wp2_with fail
          refine HCt.out.mono ?_
          rintro e w6 ⟨rfl, hww⟩
          obtain rfl := hww.symm
          clear d0
          have HL : Hid (∀ q, (Value.slice av r.length capv).ownBlock = some q → w.heap.size ≤ q ∧ q < w4.heap.size) := Lib.hid hown4.lt
          have hsz4 := HB4.out.size
          have HRl : Hid ((r ++ [X]).length = r.length + 1) := Lib.hid (by simp)
          go_wp2_with (at_builtin; refine wpList_append_own _ rfl _ _ 32 rfl w.heap.size 9 i0 (.string ByteArray.empty) 1 16 Tryd.underlying32 hi hz0 hz1 hz2 rfl (by decide) _ _ _ rfl (hown4.alloc _) ⟨w4.heap.size, 0, none⟩ 1 1 [.string X] rfl rfl (cell_one_new _ _ _) (by simp [Value.oneCell']) x1 x2 (Nat.le_trans hsz4 (below_alloc w4 _).size) ?_; intro v' w7 hown' hgrow _)
          have HW7 : Hid (w7.ownsRow w.heap.size 9 1 v' (sgB m (k + 1)).length (sts (sgB m (k + 1)))) := Lib.hid (by rw [HN.out, HRl.out, sts_snoc]; exact hown')
          have HB7 : Hid (Below w.heap.size w w7) := Lib.hid ((HB4.out.alloc HB4.out.size _).grown hgrow (Nat.le_trans HB4.out.size (below_alloc w4 _).size) (fun q e => (HL.out q e).1))
          clear hown' hgrow hown4 x1 x2 hsz4
          go_wp2
          go_roundw
          case rel => exact ⟨k + 1, by go_num, by omega, HW7.out, HB7⟩
          case measure => simp [intOf]; omega
    · obtain rfl : k = 99 := by omega
      obtain ⟨a', g', c', rfl, hs', hg', ho'⟩ := seq_of_row hown
      have HSq := Lib.hid (And.intro hs' (And.intro hg' ho'))
      clear hs' hg' ho' hown
      go_wp2
      (first | go_ret | go_ret2)
      exact ⟨_, g', _, rfl, HSq.out.1, HSq.out.2.1, HSq.out.2.2, HB3.out⟩
theorem signalsOf_both (l0 : List Int) (hl : l0.length ≤ 1048576) (hi : InI l0) : ∃ (l : List ByteArray) (R1 : Bool), l.length ≤ 1048576 ∧
    Hid (∀ W a g c, SrcV W a g (intz l0) → Calls Tryd.prog 15 #[.slice a l0.length c] W (SeqOut (sts l) l.length R1 W)) ∧
    Hid (∀ W a g c, SrcV W a g (intz l0) → ∀ a0 a1, Sent W a0 a1 → Calls Tryd.prog 16 #[.slice a l0.length c] W (SeqOut (sts l) l.length R1 W)) := by
  cases h : traceZ l0
  · exact ⟨[], false, by simp, fun W a g c hs => sSignalsOf_no1 a g c l0 W hs hl h, fun W a g c hs a0 a1 hS => signalsOf_no1 a g c l0 a0 a1 W hs hl hS h⟩
  · obtain ⟨m, rfl, hm⟩ := traceZ_nat h
    rw [zs_len, zs_ints]
    exact ⟨sgB m 99, true, by have := sgB_len m 99; omega, fun W a g c hs => sSignalsOf_yes a g c m W hs hm, fun W a g c hs a0 a1 hS => signalsOf_yes a g c m a0 a1 W hs hm hS⟩
end Go.Proofs.YtgfmcpipbmnagaaDoor
