/-
  Contract of the program's partsOf: the iterator tells the parts of a text, one after the other. Used by the claims on SplitString, VerifyChecksum, FnStrings, FnSplitJoin.
-/
import Derived.Test.YtfjedcjpgmledaaSplitW
import Derived.RangeFuncBox
import Derived.RangeFuncLeaves
import Derived.RangeFuncCalls
import Derived.Shelf.Abstract
import Derived.OwnWalkIn
import Derived.TacticsInMore
import Derived.LoopNIn
import Derived.LoopIn
import Derived.Sort.QuietTacIn
namespace Go.Proofs.Ytfjedcjpgmledaa
open Go.RowKit Go.Shelf
set_option linter.unusedVariables false

attribute [local go_sem] Oper.semAt_some

/-- The two captured variables lie as they lay. -/
def SameTwo (B1 B2 : Nat) (W W' : World) : Prop := W'.heap[B1]? = W.heap[B1]? ∧ W'.heap[B2]? = W.heap[B2]?
theorem sameTwo_refl (B1 B2 : Nat) (W : World) : SameTwo B1 B2 W W := ⟨rfl, rfl⟩
theorem SameTwo.trans {B1 B2 : Nat} {A B C : World} (h : SameTwo B1 B2 A B) (k : SameTwo B1 B2 B C) : SameTwo B1 B2 A C := ⟨k.1.trans h.1, k.2.trans h.2⟩
theorem same_draws (B1 B2 : Nat) (w : World) (k : Nat) : SameTwo B1 B2 w (w.drewN k) := ⟨rfl, rfl⟩
theorem below_draws (B : Nat) (w : World) (k : Nat) : Below B w (w.drewN k) := ⟨rfl, rfl, rfl, Nat.le_refl _, fun _ _ => rfl⟩
theorem grown_drewN (W : World) (n : Nat) : W.grownBy (W.drewN n) none := ⟨rfl, rfl, rfl, Nat.le_refl _, fun _ _ _ => rfl⟩

set_option maxRecDepth 100000 in
set_option maxHeartbeats 2000000 in
theorem parts1_in (F : Fence) (n : Nat) (h55 : F.fn 113) (hro : F.round = none) (hn : 1 ≤ n) (l B1 B2 : Nat) (s : ByteArray) (b : UInt8) (hs : s.size ≤ 1048576) (J Jx : List ByteArray → World → Prop)
    (hJd : ∀ ps W k, J ps W → J ps (W.drewN k))
    (hY : ∀ pre x W, J pre W → pre.length < s.size + 1 → YieldAt F (n - 1) Try.prog l #[.string x] W fun e W' =>
      (e = .returned (.bool true) ∧ J (pre ++ [x]) W' ∧ SameTwo B1 B2 W W') ∨ (e = .returned (.bool false) ∧ Jx (pre ++ [x]) W'))
    (W : World) (c1 : W.cell? ⟨B1, 0, none⟩ = some (.string s)) (c2 : W.cell? ⟨B2, 0, none⟩ = some (.int .u8 b.toNat)) (h0 : J [] W) :
    CallsIn F n Try.prog 113 #[.func (.yield l) #[] #[], .pointer (some ⟨B1, 0, none⟩), .pointer (some ⟨B2, 0, none⟩)] W fun e W' => (∃ v, e = .returned v) ∧
      ((∃ ys, ys = splitS s b ∧ J ys W') ∨ (∃ pre, True ∧ Jx pre W')) := by
  refine callsIn_of_wp Try.func113 rfl h55 ?_ hro
  simp only [Try.ntmps113, List.size_toArray, List.length_cons, List.length_nil, Nat.reduceAdd, Nat.reduceSub, Array.replicate_succ, Array.replicate_zero, List.push_toArray, List.append_toArray, List.nil_append, List.cons_append]
  gi_wp2
  gi_loopw [4, 8] (fun f i wr => ∃ (k q : Nat) (ps : List ByteArray), k ≤ s.size ∧ q ≤ k ∧ ps.length ≤ k ∧ i = .int .i64 k ∧ f = .int .i64 q ∧ Hid (cutAt s b k = (ps, q)) ∧ Hid (J ps wr) ∧ Hid (SameTwo B1 B2 W wr))
    (fun _ i _ => s.size - (intOf i).toNat)
  case atStart => exact ⟨0, 0, [], Nat.zero_le _, Nat.le_refl _, Nat.zero_le _, rfl, rfl, rfl, h0, sameTwo_refl _ _ _⟩
  case round =>
    obtain ⟨k, q, ps, hk, hq, hp, rfl, rfl, HC, HJ, HB⟩ := hrel
    have d1 : wr.cell? ⟨B1, 0, none⟩ = some (.string s) := (World.cell?_of_block (w := W) (a := ⟨B1, 0, none⟩) HB.out.1).trans c1
    have d2 : wr.cell? ⟨B2, 0, none⟩ = some (.int .u8 b.toNat) := (World.cell?_of_block (w := W) (a := ⟨B2, 0, none⟩) HB.out.2).trans c2
    by_cases hlt : k < s.size
    · have i0 : (0 : Int) ≤ (k : Int) := by omega
      have i1 : (k : Int) < (s.size : Int) := by omega
      by_cases heq : s[k] = b
      · have hne : ((s[k].toNat : Int) == (b.toNat : Int)) = true := by rw [heq]; simp
        have hne2 : ((s[k].toNat : Int) != (b.toNat : Int)) = false := by rw [heq]; simp
        have HN : Hid (cutAt s b (k + 1) = (ps ++ [s.extract q k], k + 1)) := by
          show _ = _
          rw [cutAt_hit s b k (by rw [byte_at s k hlt, heq]), HC.out]
        clear heq
        gi_wp2
        refine wpIn_region_quiet_lit hro (by kernel_rfl) (by kernel_rfl) ?_
        repeat (quiet_step_in (fail))
        refine wpQuietIn_nil ?_
        intro _ hw'
        obtain ⟨nq, hw''⟩ := hw'
        subst hw''
        obtain ⟨fn, tmps, assign, body, hy, hR⟩ := hY ps (s.extract q k) (wr.drewN nq) (hJd _ _ _ HJ.out) (by omega)
        gi_wp2
        refine hR.mono ?_
        rintro e W3 (⟨rfl, hJ3, hk3⟩ | ⟨rfl, hJx3⟩)
        · have HJ3 := Lib.hid hJ3
          have HB3 : Hid (SameTwo B1 B2 W W3) := Lib.hid ((HB.out.trans (same_draws B1 B2 wr nq)).trans hk3)
          clear hJ3 hk3
          gi_wp2
          go_roundw
          case rel => exact ⟨k + 1, k + 1, ps ++ [s.extract q k], by omega, by omega, by simp; omega, by go_num, by go_num, HN, HJ3, HB3⟩
          case measure => simp [intOf]; omega
        · have HJ3 := Lib.hid hJx3
          clear hJx3
          gi_wp2
          refine bodyPost_ret (results_none rfl _ _ _) rfl ?_
          exact ⟨⟨_, rfl⟩, .inr ⟨_, trivial, HJ3.out⟩⟩
      · have hne : ((s[k].toNat : Int) == (b.toNat : Int)) = false := beq_false_of_ne (fun e => heq (UInt8.toNat_inj.1 (by omega)))
        have hne2 : ((s[k].toNat : Int) != (b.toNat : Int)) = true := by rw [bne, hne]; rfl
        have HN : Hid (cutAt s b (k + 1) = (ps, q)) := by
          show _ = _
          rw [cutAt_miss s b k (by rw [byte_at s k hlt]; intro e; exact heq (Option.some.inj e)), HC.out]
        clear heq
        gi_wp2
        refine wpIn_region_quiet_lit hro (by kernel_rfl) (by kernel_rfl) ?_
        repeat (quiet_step_in (fail))
        refine wpQuietIn_nil ?_
        intro _ hw'
        obtain ⟨nq, hw''⟩ := hw'
        subst hw''
        have HJ3 := Lib.hid (hJd _ _ nq HJ.out)
        have HB3 : Hid (SameTwo B1 B2 W (wr.drewN nq)) := Lib.hid (HB.out.trans (same_draws B1 B2 wr nq))
        gi_wp2
        go_roundw
        case rel => exact ⟨k + 1, q, ps, by omega, by omega, by omega, by go_num, rfl, HN, HJ3, HB3⟩
        case measure => simp [intOf]; omega
    · obtain rfl : k = s.size := by omega
      have HN : Hid (splitS s b = ps ++ [s.extract q s.size]) := by
        show _ = _
        unfold splitS; rw [HC.out]
      obtain ⟨fn, tmps, assign, body, hy, hR⟩ := hY ps (s.extract q s.size) wr HJ.out (by omega)
      gi_wp2
      refine hR.mono ?_
      rintro e W3 (⟨rfl, hJ3, hk3⟩ | ⟨rfl, hJx3⟩)
      · have HJ3 := Lib.hid hJ3
        clear hJ3 hk3
        gi_wp2
        go_end0
        exact ⟨⟨_, rfl⟩, .inl ⟨_, HN.out.symm, HJ3.out⟩⟩
      · have HJ3 := Lib.hid hJx3
        clear hJx3
        gi_wp2
        go_end0
        exact ⟨⟨_, rfl⟩, .inr ⟨_, trivial, HJ3.out⟩⟩

set_option maxHeartbeats 1000000 in
theorem partsOf_in (F : Fence) (n : Nat) (h45 : F.fn 104) (hro : F.round = none) (s : ByteArray) (b : UInt8) (w : World) :
    CallsIn F n Try.prog 104 #[.string s, .int .u8 b.toNat] w fun e w' => e = .returned (.func (.func 113) #[] #[.pointer (some ⟨w.heap.size, 0, none⟩), .pointer (some ⟨w.heap.size + 1, 0, none⟩)]) ∧
      w' = (w.alloc (.cells #[.string s] 9)).alloc (.cells #[.int .u8 b.toNat] 5) := by
  refine callsIn_of_wp Try.func104 rfl h45 ?_ hro
  simp only [Try.ntmps104, List.size_toArray, List.length_cons, List.length_nil, Nat.reduceAdd, Nat.reduceSub, Array.replicate_succ, Array.replicate_zero, List.push_toArray, List.append_toArray, List.nil_append, List.cons_append]
  gi_wp2
  go_ret
  exact ⟨rfl, rfl⟩

theorem parts_stops (F : Fence) (n : Nat) (h55 : F.fn 113) (hro : F.round = none) (hn : 1 ≤ n) (B1 B2 : Nat) (s : ByteArray) (b : UInt8) (hs : s.size ≤ 1048576) (w : World) (h1 : B1 < w.heap.size) (h2 : B2 < w.heap.size)
    (c1 : w.cell? ⟨B1, 0, none⟩ = some (.string s)) (c2 : w.cell? ⟨B2, 0, none⟩ = some (.int .u8 b.toNat)) :
    SeqStopsK F n Try.prog 113 #[.pointer (some ⟨B1, 0, none⟩), .pointer (some ⟨B2, 0, none⟩)] (fun x : ByteArray => #[Value.string x]) (SameTwo B1 B2) (fun ys => ys = splitS s b) (fun _ => True) (s.size + 1) w := fun l J Jx W hW hJ _ hY h0 =>
  parts1_in F n h55 hro hn l B1 B2 s b hs J Jx (fun ps W k h => hJ ps W _ none h (grown_drewN W k) (fun r e => by cases e)) hY W
    ((hW.cell (p := ⟨B1, 0, none⟩) h1).trans c1) ((hW.cell (p := ⟨B2, 0, none⟩) h2).trans c2) h0
theorem same_b {B1 B2 : Nat} {w : World} (h1 : B1 < w.heap.size) (h2 : B2 < w.heap.size) (W : World) (l : Nat) (o o' : Obj) (hl : w.heap.size ≤ l) : SameTwo B1 B2 W (W.putObj l o') :=
  ⟨World.putObj_heap_other (by omega), World.putObj_heap_other (by omega)⟩
end Go.Proofs.Ytfjedcjpgmledaa
