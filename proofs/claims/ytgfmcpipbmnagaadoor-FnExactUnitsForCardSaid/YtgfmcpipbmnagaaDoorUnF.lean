/-
  UnitsFor, the program's and the model's. Used by the claim on UnitsFor.
-/
import Derived.Test.YtgfmcpipbmnagaaDoorErrI
import Derived.Test.YtgfmcpipbmnagaaDoorMadW
namespace Go.Proofs.YtgfmcpipbmnagaaDoor
open Go.RowKit
set_option linter.unusedVariables false

def unTo (m : List Nat) (l : Bs) : Nat → List Nat
  | 0 => []
  | k + 1 => unTo m l k ++ (if rdL m (k + 1) = l then [k + 1] else [])
theorem unTo_yes {m : List Nat} {l : Bs} {k : Nat} (h : rdL m (k + 1) = l) : unTo m l (k + 1) = unTo m l k ++ [k + 1] := by rw [unTo, if_pos h]
theorem unTo_no {m : List Nat} {l : Bs} {k : Nat} (h : rdL m (k + 1) ≠ l) : unTo m l (k + 1) = unTo m l k := by rw [unTo, if_neg h, List.append_nil]
theorem unTo_len (m : List Nat) (l : Bs) : ∀ k, (unTo m l k).length ≤ k
  | 0 => Nat.le_refl _
  | k + 1 => by
    have := unTo_len m l k
    rw [unTo, List.length_append]
    split <;> simp <;> omega
theorem app_un (n : Nat) (h : n ≤ 1048576) : n + 1 ≤ maxLen ∧ (n + 1) * 8 ≤ 140737488355328 := by
  unfold maxLen; omega
theorem isSigR_f (s : ByteArray) (B : Bool) (h : (pieces (bl s)).isSome = B) (hs : s.size ≤ 1048576) : Hid (∀ W, Calls Tryd.prog 44 #[.string s] W fun e W' => e = .returned (.bool B) ∧ Below W.heap.size W W') := fun W => by
  rw [← h]; exact isSignal_any s W hs
theorem sSigR_f (s : ByteArray) (B : Bool) (h : (pieces (bl s)).isSome = B) (hs : s.size ≤ 1048576) : Hid (∀ W, Calls Tryd.prog 42 #[.string s] W fun e W' => e = .returned (.bool B) ∧ Below W.heap.size W W') := fun W => by
  rw [← h]; exact sSignal_any s W hs
theorem row_below3 {w w' : World} {base : Nat} {e : TypeId} {size : Nat} {v : Value} {n : Nat} {xs : List Value} (h : w.ownsRow base e size v n xs) (hb : Below w.heap.size w w') : w'.ownsRow base e size v n xs := row_below h hb
theorem text_eq {l : Bs} {s : ByteArray} {B : Bool} (h : (l == bl s) = B) : (l == s.toList) = B := by
  rw [ByteArray.toList_eq]; exact h
/-- the model: not valid. -/
theorem sUnitsFor_no1 (a : Option Addr) (g c : Nat) (l : List Int) (s : ByteArray) (w : World) (hs : SrcV w a g (intz l)) (hl : l.length ≤ 1048576) (h : traceZ l = false) :
    Calls Tryd.prog 11 #[.slice a l.length c, .string s] w (SeqOut (ints []) ([] : List Nat).length false w) := by
  have F1 := sTrace_f l false h hl
  have HS := Lib.hid fun W hb => hs.below (w' := W) hb
  clear h hs
  go_enter Tryd.func11, Tryd.ntmps11
  go_wp2_with fail
  refine (F1.out _ _ _ _ (HS.out _ (below_alloc _ _))).mono ?_
  rintro e w1 ⟨rfl, hb⟩
  have HB : Hid (Below w.heap.size w w1) := Lib.hid ((below_alloc w _).trans (hb.mono (below_alloc w _).size))
  clear hb
  go_wp2
  (first | go_ret | go_ret2)
  exact seq_no _ _ HB.out
theorem sUnitsFor_no2 (a : Option Addr) (g c : Nat) (l : List Int) (s : ByteArray) (w : World) (hs : SrcV w a g (intz l)) (hl : l.length ≤ 1048576) (hsz : s.size ≤ 1048576) (h : traceZ l = true) (h2 : (pieces (bl s)).isSome = false) :
    Calls Tryd.prog 11 #[.slice a l.length c, .string s] w (SeqOut (ints []) ([] : List Nat).length false w) := by
  have F1 := sTrace_f l true h hl
  have F2 := sSigR_f s false h2 hsz
  have HS := Lib.hid fun W hb => hs.below (w' := W) hb
  clear h hs h2
  go_enter Tryd.func11, Tryd.ntmps11
  go_wp2_with fail
  refine (F1.out _ _ _ _ (HS.out _ (below_alloc _ _))).mono ?_
  rintro e w1 ⟨rfl, hb⟩
  have HB : Hid (Below w.heap.size w w1) := Lib.hid ((below_alloc w _).trans (hb.mono (below_alloc w _).size))
  clear hb
  go_wp2_with fail
  refine (F2.out _).mono ?_
  rintro e w2 ⟨rfl, hb⟩
  have HB2 := Lib.hid (HB.out.trans (hb.mono HB.out.size))
  clear hb
  go_wp2
  (first | go_ret | go_ret2)
  exact seq_no _ _ HB2.out
set_option maxHeartbeats 4000000 in
set_option maxRecDepth 8000 in
theorem sUnitsFor_yes (a : Option Addr) (g c : Nat) (m : List Nat) (s : ByteArray) (w : World) (hs : SrcV w a g (ints m)) (hm : IsTr m) (hsz : s.size ≤ 1048576) (h2 : (pieces (bl s)).isSome = true) :
    Calls Tryd.prog 11 #[.slice a m.length c, .string s] w (SeqOut (ints (unTo m (bl s) 99)) (unTo m (bl s) 99).length true w) := by
  obtain ⟨i0, hi, hz0, hz1, hz2⟩ := info_parts infoIntI
  have F1 := sTrace_m m hm
  have F2 := sSigR_f s true h2 hsz
  have HRd := Lib.hid fun u (hu : u ≤ 99) W hs => sRead_any a g c m u W hs hm hu
  have HS := Lib.hid fun W hb => hs.below (w' := W) hb
  have M0 : Hid ((w.alloc (Obj.cells #[] 3)).ownsRow w.heap.size 3 1 (.slice (some ⟨w.heap.size, 0, none⟩) 0 0) ([] : List Nat).length (ints [])) := Lib.hid (World.ownsRow_made (base := w.heap.size) w #[] 0 (Nat.le_refl _) (by unfold maxLen; omega) rfl)
  clear hs hm h2
  go_enter Tryd.func11, Tryd.ntmps11
  go_wp2_with fail
  refine (F1.out _ _ _ _ (HS.out _ (below_alloc _ _))).mono ?_
  rintro e w1 ⟨rfl, hb⟩
  have HB : Hid (Below w.heap.size w w1) := Lib.hid ((below_alloc w _).trans (hb.mono (below_alloc w _).size))
  have M1 := Lib.hid (row_below M0.out hb)
  clear hb
  go_wp2_with fail
  refine (F2.out _).mono ?_
  rintro e w2 ⟨rfl, hb⟩
  have HB2 := Lib.hid (HB.out.trans (hb.mono HB.out.size))
  have M2 := Lib.hid (row_below M1.out hb)
  clear hb
  go_wp2
  go_loopw [6, 7] (fun pv v wr => ∃ k : Nat, v = .int .i64 ((k + 1 : Nat) : Int) ∧ k ≤ 99 ∧ wr.ownsRow w.heap.size 3 1 pv (unTo m (bl s) k).length (ints (unTo m (bl s) k)) ∧ Hid (Below w.heap.size w wr)) (fun _ v _ => 101 - (intOf v).toNat)
  case atStart => exact ⟨0, rfl, by omega, M2.out, HB2⟩
  case round =>
    obtain ⟨k, rfl, hk, hown, HB3⟩ := hrel
    have e0 : ((k + 1 : Nat) : Int) = (k : Int) + 1 := by omega
    rw [e0]
    by_cases hlt : k < 99
    · obtain ⟨av, capv, rfl⟩ := row_form hown
      have HC := Lib.hid (HRd.out (k + 1) (by omega) _ (HS.out _ HB3.out))
      rw [e0] at HC
      have hln := unTo_len m (bl s) k
      obtain ⟨a1, a2⟩ := app_un (unTo m (bl s) k).length (by omega)
      have HO := Lib.hid hown
      clear hown
      by_cases hq : rdL m (k + 1) = bl s
      · have HN := Lib.hid (unTo_yes hq)
        have e1 := text_eq (l := rdL m (k + 1)) (s := s) (B := true) (by rw [hq]; simp)
        generalize unTo m (bl s) k = r at HO HN hln a1 a2
        generalize rdL m (k + 1) = rd at HC e1
        clear hq
        go_wp2_with fail
        refine HC.out.mono ?_
        rintro e w4 ⟨rfl, hb⟩
        have HB4 := Lib.hid (HB3.out.trans (hb.mono HB3.out.size))
        have hown4 := row_below3 HO.out hb
        have HL : Hid (∀ q, (Value.slice av r.length capv).ownBlock = some q → w.heap.size ≤ q ∧ q < w4.heap.size) := Lib.hid hown4.lt
        have hsz4 := HB4.out.size
        have HRl : Hid ((r ++ [k + 1]).length = r.length + 1) := Lib.hid (by simp)
        clear hb
        go_wp2_with (at_builtin; refine wpList_append_own _ rfl _ _ 22 rfl w.heap.size 3 i0 (.int .i64 0) 1 8 Tryd.underlying22 hi hz0 hz1 hz2 rfl (by decide) _ _ _ rfl (hown4.alloc _) ⟨w4.heap.size, 0, none⟩ 1 1 [.int .i64 ((k : Int) + 1)] rfl rfl (cell_one_new _ _ _) (by simp [Value.oneCell']) a1 a2 (Nat.le_trans hsz4 (below_alloc w4 _).size) ?_; intro v' w7 hown' hgrow _)
        have HW7 : Hid (w7.ownsRow w.heap.size 3 1 v' (unTo m (bl s) (k + 1)).length (ints (unTo m (bl s) (k + 1)))) := Lib.hid (by rw [HN.out, HRl.out, ints_snoc]; exact hown')
        have HB7 : Hid (Below w.heap.size w w7) := Lib.hid ((HB4.out.alloc HB4.out.size _).grown hgrow (Nat.le_trans HB4.out.size (below_alloc w4 _).size) (fun q e => (HL.out q e).1))
        clear hown' hgrow hown4 a1 a2 hsz4
        go_wp2
        go_roundw
        case rel => exact ⟨k + 1, by go_num, by omega, HW7.out, HB7⟩
        case measure => simp [intOf]; omega
      · have HN := Lib.hid (unTo_no hq)
        have e1 := text_eq (l := rdL m (k + 1)) (s := s) (B := false) (beq_false_of_ne hq)
        generalize unTo m (bl s) k = r at HO HN hln a1 a2
        generalize rdL m (k + 1) = rd at HC e1
        clear hq a1 a2
        go_wp2_with fail
        refine HC.out.mono ?_
        rintro e w4 ⟨rfl, hb⟩
        have HB4 := Lib.hid (HB3.out.trans (hb.mono HB3.out.size))
        have HW4 := Lib.hid (row_below3 HO.out hb)
        clear hb
        go_wp2
        go_roundw
        case rel => exact ⟨k + 1, by go_num, by omega, by rw [HN.out]; exact HW4.out, HB4⟩
        case measure => simp [intOf]; omega
    · obtain rfl : k = 99 := by omega
      obtain ⟨a', g', c', rfl, hs', hg', ho'⟩ := seq_of_row hown
      have HSq := Lib.hid (And.intro hs' (And.intro hg' ho'))
      clear hs' hg' ho' hown
      go_wp2
      (first | go_ret | go_ret2)
      exact ⟨_, g', _, rfl, HSq.out.1, HSq.out.2.1, HSq.out.2.2, HB3.out⟩
/-- the program: no signal. -/
theorem unitsFor_no2 (a : Option Addr) (g c : Nat) (l : List Int) (s : ByteArray) (w : World) (hsz : s.size ≤ 1048576) (h2 : (pieces (bl s)).isSome = false) :
    Calls Tryd.prog 12 #[.slice a l.length c, .string s] w (SeqOut (ints []) ([] : List Nat).length false w) := by
  have F2 := isSigR_f s false h2 hsz
  clear h2
  go_enter Tryd.func12, Tryd.ntmps12
  go_wp2_with fail
  refine (F2.out _).mono ?_
  rintro e w2 ⟨rfl, hb⟩
  have HB2 := Lib.hid hb
  clear hb
  go_wp2
  (first | go_ret | go_ret2)
  exact seq_no _ _ HB2.out
set_option maxHeartbeats 4000000 in
/-- the program: a signal, but no trace. -/
theorem unitsFor_no1 (a : Option Addr) (g c : Nat) (l : List Int) (s : ByteArray) (a0 a1 : Addr) (w : World) (hs : SrcV w a g (intz l)) (hl : l.length ≤ 1048576) (hsz : s.size ≤ 1048576) (hS : Sent w a0 a1) (h : traceZ l = false) (h2 : (pieces (bl s)).isSome = true) :
    Calls Tryd.prog 12 #[.slice a l.length c, .string s] w (SeqOut (ints []) ([] : List Nat).length false w) := by
  have F2 := isSigR_f s true h2 hsz
  have HS := Lib.hid fun W hb => hs.below (w' := W) hb
  have HE := Lib.hid fun W hb => hS.below (W' := W) hb
  have HR := Lib.hid fun W hs hS => readTr_no1 a g c l 1 a0 a1 W hs hl hS h
  clear h2 hs hS h
  go_enter Tryd.func12, Tryd.ntmps12
  go_wp2_with fail
  refine (F2.out _).mono ?_
  rintro e w2 ⟨rfl, hb⟩
  have HB2 := Lib.hid hb
  clear hb
  go_wp2
  go_loopw [6, 7] (fun pv v wr => v = .int .i64 1 ∧ Hid (Below w.heap.size w wr)) (fun _ v _ => 1)
  case atStart => exact ⟨rfl, Lib.hid (HB2.out.alloc HB2.out.size _)⟩
  case round =>
    obtain ⟨rfl, HB3⟩ := hrel
    go_wp2_with fail
    refine (HR.out _ (HS.out _ HB3.out) (HE.out _ HB3.out)).mono ?_
    rintro e w4 ⟨rfl, hb⟩
    have HB4 := Lib.hid (HB3.out.trans (hb.mono HB3.out.size))
    have HE4 := Lib.hid (HE.out _ HB4.out)
    have d0 := HE4.out.c0
    obtain ⟨cb0, tb0, hb0⟩ := HE4.out.b0
    obtain ⟨cb1, tb1, hb1⟩ := HE4.out.b1
    have HI := Lib.hid (es_other a1 a0 cb1 cb0 tb1 tb0 w4 (fun e => HE4.out.ne e.symm) hb1 hb0)
    clear hb hb0 hb1
    go_wp2_with fail
    refine HI.out.mono ?_
    rintro e w5 ⟨rfl, hww⟩
    obtain rfl := hww.symm
    go_wp2
    (first | go_ret | go_ret2)
    exact seq_no _ _ HB4.out
set_option maxHeartbeats 8000000 in
set_option maxRecDepth 8000 in
theorem unitsFor_yes (a : Option Addr) (g c : Nat) (m : List Nat) (s : ByteArray) (a0 a1 : Addr) (w : World) (hs : SrcV w a g (ints m)) (hm : IsTr m) (hsz : s.size ≤ 1048576) (hS : Sent w a0 a1) (h2 : (pieces (bl s)).isSome = true) :
    Calls Tryd.prog 12 #[.slice a m.length c, .string s] w (SeqOut (ints (unTo m (bl s) 99)) (unTo m (bl s) 99).length true w) := by
  obtain ⟨i0, hi, hz0, hz1, hz2⟩ := info_parts infoIntI
  have F2 := isSigR_f s true h2 hsz
  have HS := Lib.hid fun W hb => hs.below (w' := W) hb
  have HE := Lib.hid fun W hb => hS.below (W' := W) hb
  have HR := Lib.hid fun u (h0 : 1 ≤ u) (hu : u ≤ 99) W hs hS => readTr_yes a g c m u a0 a1 W hs hm h0 hu hS
  have HSi := Lib.hid h2
  clear h2 hs hS hm
  go_enter Tryd.func12, Tryd.ntmps12
  go_wp2_with fail
  refine (F2.out _).mono ?_
  rintro e w2 ⟨rfl, hb⟩
  have HB2 := Lib.hid hb
  clear hb
  have M0 : Hid ((w2.alloc (Obj.cells #[] 3)).ownsRow w.heap.size 3 1 (.slice (some ⟨w2.heap.size, 0, none⟩) 0 0) ([] : List Nat).length (ints [])) := Lib.hid (World.ownsRow_made (base := w.heap.size) w2 #[] 0 HB2.out.size (by unfold maxLen; omega) rfl)
  go_wp2
  go_loopw [6, 7] (fun pv v wr => ∃ k : Nat, v = .int .i64 ((k + 1 : Nat) : Int) ∧ k ≤ 99 ∧ wr.ownsRow w.heap.size 3 1 pv (unTo m (bl s) k).length (ints (unTo m (bl s) k)) ∧ Hid (Below w.heap.size w wr)) (fun _ v _ => 101 - (intOf v).toNat)
  case atStart => exact ⟨0, rfl, by omega, M0.out, Lib.hid (HB2.out.alloc HB2.out.size _)⟩
  case round =>
    obtain ⟨k, rfl, hk, hown, HB3⟩ := hrel
    have e0 : ((k + 1 : Nat) : Int) = (k : Int) + 1 := by omega
    rw [e0]
    by_cases hlt : k < 99
    · obtain ⟨av, capv, rfl⟩ := row_form hown
      have HC := Lib.hid (HR.out (k + 1) (by omega) (by omega) _ (HS.out _ HB3.out) (HE.out _ HB3.out))
      rw [e0] at HC
      have hln := unTo_len m (bl s) k
      obtain ⟨x1, x2⟩ := app_un (unTo m (bl s) k).length (by omega)
      have HO := Lib.hid hown
      clear hown
      cases hsg : (pieces (rdL m (k + 1))).isSome
      · have hq : rdL m (k + 1) ≠ bl s := fun e => by rw [e, HSi.out] at hsg; cases hsg
        have HN := Lib.hid (unTo_no hq)
        have HV : Hid (rtV m (k + 1) a0 = (ByteArray.empty, .iface 118 (.pointer (some a0)))) := Lib.hid (by unfold rtV; rw [hsg]; rfl)
        rw [HV.out] at HC
        generalize unTo m (bl s) k = r at HO HN hln
        clear hq hsg x1 x2
        go_wp2_with fail
        refine HC.out.mono ?_
        rintro e w4 ⟨rfl, hb⟩
        have HB4 := Lib.hid (HB3.out.trans (hb.mono HB3.out.size))
        have HW4 := Lib.hid (row_below3 HO.out hb)
        have d0 := (HE.out _ HB4.out).c0
        have HI := Lib.hid (es_same a0 w4)
        clear hb
        go_wp2_with fail
        refine HI.out.mono ?_
        rintro e w5 ⟨rfl, hww⟩
        obtain rfl := hww.symm
        go_wp2
        go_roundw
        case rel => exact ⟨k + 1, by go_num, by omega, by rw [HN.out]; exact HW4.out, HB4⟩
        case measure => simp [intOf]; omega
      · have HV : Hid (rtV m (k + 1) a0 = (⟨(rdL m (k + 1)).toArray⟩, .nilIface)) := Lib.hid (by unfold rtV; rw [hsg]; rfl)
        rw [HV.out] at HC
        by_cases hq : rdL m (k + 1) = bl s
        · have HN := Lib.hid (unTo_yes hq)
          have e1 := text_eq (l := rdL m (k + 1)) (s := s) (B := true) (by rw [hq]; simp)
          generalize unTo m (bl s) k = r at HO HN hln x1 x2
          generalize rdL m (k + 1) = rd at HC e1
          clear hq hsg
          go_wp2_with fail
          refine HC.out.mono ?_
          rintro e w4 ⟨rfl, hb⟩
          have HB4 := Lib.hid (HB3.out.trans (hb.mono HB3.out.size))
          have hown4 := row_below3 HO.out hb
          have HL : Hid (∀ q, (Value.slice av r.length capv).ownBlock = some q → w.heap.size ≤ q ∧ q < w4.heap.size) := Lib.hid hown4.lt
          have hsz4 := HB4.out.size
          have HRl : Hid ((r ++ [k + 1]).length = r.length + 1) := Lib.hid (by simp)
          have d0 := (HE.out _ HB4.out).c0
          have HI := Lib.hid (es_nil a0 w4)
          clear hb
          go_wp2_with fail
          refine HI.out.mono ?_
          rintro e w5 ⟨rfl, hww⟩
          obtain rfl := hww.symm
          go_wp2_with (at_builtin; refine wpList_append_own _ rfl _ _ 22 rfl w.heap.size 3 i0 (.int .i64 0) 1 8 Tryd.underlying22 hi hz0 hz1 hz2 rfl (by decide) _ _ _ rfl (hown4.alloc _) ⟨w4.heap.size, 0, none⟩ 1 1 [.int .i64 ((k : Int) + 1)] rfl rfl (cell_one_new _ _ _) (by simp [Value.oneCell']) x1 x2 (Nat.le_trans hsz4 (below_alloc w4 _).size) ?_; intro v' w7 hown' hgrow _)
          have HW7 : Hid (w7.ownsRow w.heap.size 3 1 v' (unTo m (bl s) (k + 1)).length (ints (unTo m (bl s) (k + 1)))) := Lib.hid (by rw [HN.out, HRl.out, ints_snoc]; exact hown')
          have HB7 : Hid (Below w.heap.size w w7) := Lib.hid ((HB4.out.alloc HB4.out.size _).grown hgrow (Nat.le_trans HB4.out.size (below_alloc w4 _).size) (fun q e => (HL.out q e).1))
          clear hown' hgrow hown4 x1 x2 hsz4 d0
          go_wp2
          go_roundw
          case rel => exact ⟨k + 1, by go_num, by omega, HW7.out, HB7⟩
          case measure => simp [intOf]; omega
        · have HN := Lib.hid (unTo_no hq)
          have e1 := text_eq (l := rdL m (k + 1)) (s := s) (B := false) (beq_false_of_ne hq)
          generalize unTo m (bl s) k = r at HO HN hln
          generalize rdL m (k + 1) = rd at HC e1
          clear hq hsg x1 x2
          go_wp2_with fail
          refine HC.out.mono ?_
          rintro e w4 ⟨rfl, hb⟩
          have HB4 := Lib.hid (HB3.out.trans (hb.mono HB3.out.size))
          have HW4 := Lib.hid (row_below3 HO.out hb)
          have d0 := (HE.out _ HB4.out).c0
          have HI := Lib.hid (es_nil a0 w4)
          clear hb
          go_wp2_with fail
          refine HI.out.mono ?_
          rintro e w5 ⟨rfl, hww⟩
          obtain rfl := hww.symm
          go_wp2
          go_roundw
          case rel => exact ⟨k + 1, by go_num, by omega, by rw [HN.out]; exact HW4.out, HB4⟩
          case measure => simp [intOf]; omega
    · obtain rfl : k = 99 := by omega
      obtain ⟨a', g', c', rfl, hs', hg', ho'⟩ := seq_of_row hown
      have HSq := Lib.hid (And.intro hs' (And.intro hg' ho'))
      clear hs' hg' ho' hown
      go_wp2
      (first | go_ret | go_ret2)
      exact ⟨_, g', _, rfl, HSq.out.1, HSq.out.2.1, HSq.out.2.2, HB3.out⟩
theorem unitsFor_both (l0 : List Int) (s : ByteArray) (hl : l0.length ≤ 1048576) (hsz : s.size ≤ 1048576) (hi : InI l0) : ∃ (l : List Nat) (R1 : Bool), l.length ≤ 1048576 ∧
    Hid (∀ W a g c, SrcV W a g (intz l0) → Calls Tryd.prog 11 #[.slice a l0.length c, .string s] W (SeqOut (ints l) l.length R1 W)) ∧
    Hid (∀ W a g c, SrcV W a g (intz l0) → ∀ a0 a1, Sent W a0 a1 → Calls Tryd.prog 12 #[.slice a l0.length c, .string s] W (SeqOut (ints l) l.length R1 W)) := by
  cases h2 : (pieces (bl s)).isSome
  · cases h : traceZ l0
    · exact ⟨[], false, by simp, fun W a g c hs => sUnitsFor_no1 a g c l0 s W hs hl h, fun W a g c hs a0 a1 hS => unitsFor_no2 a g c l0 s W hsz h2⟩
    · exact ⟨[], false, by simp, fun W a g c hs => sUnitsFor_no2 a g c l0 s W hs hl hsz h h2, fun W a g c hs a0 a1 hS => unitsFor_no2 a g c l0 s W hsz h2⟩
  · cases h : traceZ l0
    · exact ⟨[], false, by simp, fun W a g c hs => sUnitsFor_no1 a g c l0 s W hs hl h, fun W a g c hs a0 a1 hS => unitsFor_no1 a g c l0 s a0 a1 W hs hl hsz hS h h2⟩
    · obtain ⟨m, rfl, hm⟩ := traceZ_nat h
      rw [zs_len, zs_ints]
      exact ⟨unTo m (bl s) 99, true, by have := unTo_len m (bl s) 99; omega, fun W a g c hs => sUnitsFor_yes a g c m s W hs hm hsz h2, fun W a g c hs a0 a1 hS => unitsFor_yes a g c m s a0 a1 W hs hm hsz hS h2⟩
end Go.Proofs.YtgfmcpipbmnagaaDoor
