/-
  lettersByWeight: the closure, slices.SortStableFunc at ten letters or fewer, the letters. Used by the claims on chapter 8.
-/
import Derived.Test.YtdphjnbelggcfaaSrsL
import Derived.Test.YtdphjnbelggcfaaShc
import Derived.Test.YtdphjnbelggcfaaCstW
import Derived.Deep.RegionHeld3
import Derived.Laws.OwnMore
namespace Go.Proofs.Ytdphjnbelggcfaa
open Go.RowKit
open Go.Shelf Go.Lib Go.Sort
set_option linter.unusedVariables false

def encF {n : Nat} (x : Fin (n + 1)) : Value := .int .i64 (x.val : Int)
theorem encF_one (n : Nat) : OneCell (encF (n := n)) := fun _ => rfl
/-- The weights as the closure reads them. -/
structure WtsAt (W : World) (X g n c : Nat) (us : List Nat) : Prop where
  box : W.cell? ⟨X, 0, none⟩ = some (.slice (some ⟨g, 0, none⟩) (n + 1) c)
  at_ : ∀ k, k < n + 1 → W.cell? ⟨g, k, none⟩ = some (.int .i64 ((uAt us k : Nat) : Int))
theorem cell_sorting {α : Type} [Inhabited α] (enc : α → Value) {w : World} {B m : Nat} {dk : Array α} {os : Array Obj} {a : Addr} {v : Value} (h : w.cell? a = some v) (hne : a.block ≠ B) : (sortWorld enc w B 0 m dk os).cell? a = some v := by
  unfold sortWorld
  rw [cell?_grow _ _ _ (by rw [size_putRow]; exact World.block_lt_of_cell? _ _ h), cell?_putRow_other _ _ _ _ _ _ (.inl hne)]
  exact h
theorem WtsAt.sorting {α : Type} [Inhabited α] (enc : α → Value) {w : World} {X g n c B m : Nat} {us : List Nat} {dk : Array α} {os : Array Obj} (h : WtsAt w X g n c us) (hX : X ≠ B) (hg : g ≠ B) : WtsAt (sortWorld enc w B 0 m dk os) X g n c us :=
  ⟨cell_sorting enc h.box hX, fun k hk => cell_sorting enc (h.at_ k hk) hg⟩

set_option maxHeartbeats 1000000 in
theorem heavier_any (X g n c : Nat) (us : List Nat) (x y : Fin (n + 1)) (W : World) (h : WtsAt W X g n c us) (hu : ∀ k, uAt us k ≤ 99) :
    Calls Try.prog 157 #[encF x, encF y, .pointer (some ⟨X, 0, none⟩)] W fun e w' => e = .returned (.int .i64 (cfw us x y)) ∧ ∃ q, w' = W.drewN q := by
  unfold encF cfw
  have c0 := h.box
  have c1 := h.at_ x.val x.isLt
  have c2 := h.at_ y.val y.isLt
  have u1 := hu x.val
  have u2 := hu y.val
  have x1 : ((x.val : Nat) : Int) < ((n + 1 : Nat) : Int) := by have := x.isLt; omega
  have y1 : ((y.val : Nat) : Int) < ((n + 1 : Nat) : Int) := by have := y.isLt; omega
  generalize uAt us x.val = u at *
  generalize uAt us y.val = v at *
  generalize x.val = p at *
  generalize y.val = r at *
  have x0 : (0 : Int) ≤ (p : Int) := by omega
  have y0 : (0 : Int) ≤ (r : Int) := by omega
  have wr : IntKind.i64.wrap ((v : Int) - (u : Int)) = (v : Int) - (u : Int) := by
    simp [IntKind.wrap, IntKind.bits, IntKind.signed]; omega
  generalize n + 1 = N at *
  clear h hu u1 u2
  go_enter Try.func157, Try.ntmps157
  go_wp2
  go_quiet (fail)
  go_wp2
  go_ret
  exact ⟨rfl, _, rfl⟩

set_option maxHeartbeats 1000000 in
set_option maxRecDepth 100000 in
theorem stableW_any (X g n c B cap : Nat) (us : List Nat) (w : World) (h : WtsAt w X g n c us) (hu : ∀ k, uAt us k ≤ 99) (hX : X ≠ B) (hg : g ≠ B) (hH : Sort.Holds (encF (n := n)) w B 0 (idR n)) (hn : n + 1 ≤ 10) :
    Calls Try.prog 156 #[.slice (some ⟨B, 0, none⟩) ((n + 1 : Nat)) cap, .func (.func 157) #[] #[.pointer (some ⟨X, 0, none⟩)]] w fun e w' => e = .returned (.tuple #[]) ∧ ∃ q, w' = (putRow (encF (n := n)) w B 0 (lbw us n)).drewN q := by
  have eg : ∀ args w, (callFunc 157 args).run Try.prog w = .ok (.enter 157 args) w := enters_of Try.func157 (by kernel_rfl) rfl
  have hcon := Any.insertionSortCmpFunc_one Try.insC (encF (n := n)) (encF_one n) (cfw us) 157 #[.pointer (some ⟨X, 0, none⟩)] B 0 cap 0 (n + 1) (idR n) w eg
    (fun m os dk _ x y => heavier_any X g n c us x y _ (h.sorting encF hX hg) hu) hH (by omega) (by rw [idR_size]; exact Nat.le_refl _) (by rw [idR_size]; omega)
  rw [idR_size] at hcon
  have e0 : Sort.insertionSort (ltOf (cfw us)) (idR n) 0 (n + 1) = lbw us n := rfl
  rw [e0] at hcon
  change Calls Try.prog 212 #[.slice (some ⟨B, 0, none⟩) (n + 1) cap, .int .i64 0, .int .i64 ((n + 1 : Nat) : Int), .func (.func 157) #[] #[.pointer (some ⟨X, 0, none⟩)]] w _ at hcon
  have HC := Lib.hid hcon
  clear hcon h hu hX hg hH e0 eg
  generalize putRow (encF (n := n)) w B 0 (lbw us n) = W1 at HC ⊢
  have hN : n + 1 ≤ 10 := hn
  generalize n + 1 = N at *
  have n1 : ¬ (20 : Int) ≤ (N : Int) := by omega
  have n2 : ¬ (20 : Int) < (N : Int) := by omega
  have HS : Hid (Calls Try.prog 178 #[.slice (some ⟨B, 0, none⟩) N cap, .int .i64 (N : Int), .func (.func 157) #[] #[.pointer (some ⟨X, 0, none⟩)]] w fun e w' => e = .returned (.tuple #[]) ∧ ∃ q, w' = W1.drewN q) := Lib.hid (by
    go_enter Try.func178, Try.ntmps178
    go_wp2
    refine wp_loop_rounds 1 ?_
    rw [rounds_succ]
    go_wp2_with fail
    refine HC.out.mono ?_
    rintro e w' ⟨rfl, hq⟩
    have HQ := Lib.hid hq
    clear hq
    go_wp2
    refine wp_loop_rounds 1 ?_
    rw [rounds_succ]
    go_wp2_with fail
    (try simp only [Exit.inBlock, Exit.then])
    refine bodyPost_end (v := .tuple #[]) (results_none rfl _ _ _) rfl ?_
    exact ⟨rfl, HQ.out⟩)
  go_enter Try.func156, Try.ntmps156
  go_wp2_with fail
  refine HS.out.mono ?_
  rintro e w' ⟨rfl, hq⟩
  go_wp2
  (try simp only [Exit.inBlock, Exit.then])
  refine bodyPost_end (v := .tuple #[]) (results_none rfl _ _ _) rfl ?_
  exact ⟨rfl, hq⟩

theorem grown_put {α : Type} [Inhabited α] (enc : α → Value) (w : World) (g q : Nat) (d : Array α) : w.grownBy ((putRow enc w g 0 d).drewN q) (some g) := by
  refine ⟨rfl, rfl, rfl, by simp [World.drewN], fun k hk hne => ?_⟩
  have : g ≠ k := fun e => hne (by rw [e])
  simp [putRow, mapBlock, World.drewN, Array.getElem?_modify, this]
theorem holds_ids {w : World} {base g n cap : Nat} {e : TypeId} (h : w.ownsRow base e 1 (.slice (some ⟨g, 0, none⟩) (n + 1) cap) (n + 1) (ints (List.range (n + 1)))) : Sort.Holds (encF (n := n)) w g 0 (idR n) := by
  intro j hj
  rw [idR_size] at hj
  refine ⟨?_, ?_⟩
  · rw [Nat.zero_add, h.cellAt j (by omega), ints_at (by simpa using hj), List.getElem_range]
    unfold encF
    rw [idR_at n j hj]
  · rcases h.2 with ⟨h0, _⟩ | ⟨g', cap', cur, hv, hb, hg, _, _, _, _⟩
    · cases h0
    · cases hv
      simp [World.frozen?, hg]

set_option maxHeartbeats 2000000 in
set_option maxRecDepth 20000 in
theorem lettersBy_any (g n c : Nat) (us : List Nat) (w : World) (hs : ∀ k, k < n + 1 → w.cell? ⟨g, k, none⟩ = some (.int .i64 ((uAt us k : Nat) : Int))) (hu : ∀ k, uAt us k ≤ 99) (hn : n + 1 ≤ 10) :
    Calls Try.prog 137 #[.slice (some ⟨g, 0, none⟩) ((n + 1 : Nat)) c] w fun e w' => ∃ B cap, e = .returned (.slice (some ⟨B, 0, none⟩) ((n + 1 : Nat)) cap) ∧ (∀ k, k < n + 1 → w'.cell? ⟨B, k, none⟩ = some (.int .i64 ((((lbw us n)[k]!).val : Nat) : Int))) ∧ w.heap.size ≤ B ∧ Below w.heap.size w w' := by
  obtain ⟨i0, hi, hz0, hz1, hz2⟩ := info_parts infoIntI
  obtain ⟨w1, hw1⟩ : ∃ w1, w1 = w.alloc (.cells #[.slice (some ⟨g, 0, none⟩) ((n + 1 : Nat)) c] 32) := ⟨_, rfl⟩
  have hgl : g < w.heap.size := World.block_lt_of_cell? _ _ (hs 0 (by omega))
  have hsz1 : w1.heap.size = w.heap.size + 1 := by rw [hw1]; exact Array.size_push _
  have HBw : Hid (Below w.heap.size w w1) := Lib.hid (by rw [hw1]; exact below_alloc _ _)
  have HW1 : Hid (∀ wr, Below w1.heap.size w1 wr → WtsAt wr w.heap.size g n c us) := Lib.hid fun wr hb =>
    ⟨(hb.cell (by show w.heap.size < _; omega)).trans (by rw [hw1]; exact cell_new _ _ _), fun k hk => (hb.cell (by show g < _; omega)).trans (by rw [hw1]; exact keep_cell _ _ (hs k hk))⟩
  have HS : Hid (∀ wr B cap, Below w1.heap.size w1 wr → w1.heap.size ≤ B → Sort.Holds (encF (n := n)) wr B 0 (idR n) → Calls Try.prog 156 #[.slice (some ⟨B, 0, none⟩) ((n + 1 : Nat)) cap, .func (.func 157) #[] #[.pointer (some ⟨w.heap.size, 0, none⟩)]] wr fun e w' => e = .returned (.tuple #[]) ∧ ∃ q, w' = (putRow (encF (n := n)) wr B 0 (lbw us n)).drewN q) := Lib.hid fun wr B cap hb hB hH =>
    stableW_any w.heap.size g n c B cap us wr (HW1.out wr hb) hu (by omega) (by omega) hH hn
  have HBox : Hid (∀ wr, Below w1.heap.size w1 wr → wr.cell? ⟨w.heap.size, 0, none⟩ = some (.slice (some ⟨g, 0, none⟩) ((n + 1 : Nat)) c)) := Lib.hid fun wr hb => (HW1.out wr hb).box
  have HE : Hid (((w1.alloc (.cells #[] 3)).ownsRow w1.heap.size 3 1 (.slice (some ⟨w.heap.size + 1, 0, none⟩) 0 0) 0 (ints (List.range 0))) ∧ Below w1.heap.size w1 (w1.alloc (.cells #[] 3))) := Lib.hid ⟨by rw [← hsz1]; exact World.ownsRow_made w1 #[] 0 (Nat.le_refl _) (by decide) rfl, below_alloc _ _⟩
  have c0 := HBox.out _ HE.out.2
  clear hs hu HW1 hgl
  obtain ⟨N, hN⟩ : ∃ N, N = n + 1 := ⟨_, rfl⟩
  have hN10 : N ≤ 10 := by omega
  have HNe := Lib.hid hN
  go_enter Try.func137, Try.ntmps137
  go_wp2
  rw [← hw1]
  go_loopw [3, 8] (fun pv v wr => ∃ (k : Nat), v = .int .i64 (k : Int) ∧ k ≤ n + 1 ∧ wr.ownsRow w1.heap.size 3 1 pv k (ints (List.range k)) ∧ Hid (Below w1.heap.size w1 wr)) (fun _ v _ => n + 1 - (intOf v).toNat)
  case atStart => exact ⟨0, rfl, by omega, HE.out.1, Lib.hid HE.out.2⟩
  case round =>
    obtain ⟨k, rfl, hk, hown, HB⟩ := hrel
    obtain ⟨av, capv, rfl⟩ := row_form hown
    have HL : Hid (∀ q, (Value.slice av k capv).ownBlock = some q → w1.heap.size ≤ q ∧ q < wr.heap.size) := Lib.hid hown.lt
    have hsz := HB.out.size
    by_cases hlt : k < n + 1
    · have a1 : k + 1 ≤ maxLen := by unfold maxLen; omega
      have a2 : (k + 1) * 8 ≤ 140737488355328 := by omega
      have k1 : (k : Int) < ((n + 1 : Nat) : Int) := by omega
      go_wp2_with (at_builtin; refine wpList_append_own _ rfl _ _ 32 rfl w1.heap.size 3 i0 (.int .i64 0) 1 8 Try.underlying32 hi hz0 hz1 hz2 rfl (by decide) _ _ _ rfl (hown.alloc _) ⟨wr.heap.size, 0, none⟩ 1 1 [.int .i64 (k : Int)] rfl rfl (cell_one_new _ _ _) (by simp [Value.oneCell']) a1 a2 (Nat.le_trans hsz (below_alloc wr _).size) ?_; intro v' w7 hown' hgrow _)
      have HW7 : Hid (w7.ownsRow w1.heap.size 3 1 v' (k + 1) (ints (List.range (k + 1)))) := Lib.hid (by rw [List.range_succ, ints_snoc]; exact hown')
      have HB7 : Hid (Below w1.heap.size w1 w7) := Lib.hid ((HB.out.alloc hsz _).grown hgrow (Nat.le_trans hsz (below_alloc wr _).size) (fun q e => (HL.out q e).1))
      clear hown' hgrow hown a1 a2 hsz HL
      go_wp2
      go_roundw
      case rel => exact ⟨k + 1, by go_num, by omega, HW7.out, HB7⟩
      case measure => simp [intOf]; omega
    · obtain rfl : k = n + 1 := by omega
      obtain ⟨B, rfl⟩ : ∃ B, av = some ⟨B, 0, none⟩ := by
        rcases hown.2 with ⟨h0, h1⟩ | ⟨g', cap', cur, hv, _⟩
        · omega
        · injection hv with hv _ _; exact ⟨g', hv⟩
      have hBB := HL.out B rfl
      have HBB : Hid (w.heap.size ≤ B) := Lib.hid (by have := hBB.1; omega)
      have HF := Lib.hid (HS.out wr B capv HB.out hBB.1 (holds_ids hown))
      have HC : Hid (∀ q, (∀ k, k < n + 1 → ((putRow (encF (n := n)) wr B 0 (lbw us n)).drewN q).cell? ⟨B, k, none⟩ = some (.int .i64 ((((lbw us n)[k]!).val : Nat) : Int))) ∧ Below w.heap.size w ((putRow (encF (n := n)) wr B 0 (lbw us n)).drewN q)) := Lib.hid fun q =>
        ⟨fun k hk => by
          have h := (holds_putRow (encF (n := n)) wr B 0 (idR n) (lbw us n) (holds_ids hown) (by rw [lbw_size, idR_size]) k (by rw [lbw_size]; exact hk)).1
          rw [Nat.zero_add] at h
          exact h,
        HBw.out.trans ((HB.out.grown (grown_put _ _ _ _ _) HB.out.size (fun q e => by injection e with e; omega)).mono (by omega))⟩
      clear hown HL hBB
      have c5 := HBox.out wr HB.out
      generalize putRow (encF (n := n)) wr B 0 (lbw us n) = W1 at HF HC
      go_wp2_with fail
      refine HF.out.mono ?_
      rintro e w' ⟨rfl, q, rfl⟩
      go_wp2
      go_ret
      exact ⟨B, capv, rfl, (HC.out q).1, HBB.out, (HC.out q).2⟩
end Go.Proofs.Ytdphjnbelggcfaa
