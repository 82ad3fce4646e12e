/-
  LineOfRuns, the program's and the model's, and the laws' own functions on slices of pairs. Used by the claim on LineOfRuns.
-/
import Derived.Test.YtijhfmjkiijhiaaOpenP
import Derived.Test.YtijhfmjkiijhiaaEncS0
import Derived.Test.YtijhfmjkiijhiaaLineW
import Derived.Test.YtijhfmjkiijhiaaSeqV
import Derived.Deep.OwnRows
import Derived.Laws.MakeOwn
import Derived.Deep.RegionWith
import Derived.Deep.RegionLaw
import Derived.Deep.RegionHeldLaw
namespace Go.Proofs.Ytijhfmjkiijhiaa
open Go.RowKit
set_option linter.unusedVariables false

def lorR (l : Ps) : ByteArray × Bool := match lorL l with | some b => (⟨b.toArray⟩, true) | none => (ByteArray.empty, false)
def LorOut (l : Ps) (w : World) (e : Ending) (w' : World) : Prop := e = .returned (.tuple #[.string (lorR l).1, .bool (lorR l).2]) ∧ Below w.heap.size w w'
theorem lorOut_no {l : Ps} {w w' : World} (h : lorL l = none) (hb : Below w.heap.size w w') : LorOut l w (.returned (.tuple #[.string ByteArray.empty, .bool false])) w' := ⟨by unfold lorR; rw [h], hb⟩
theorem lorOut_yes {l : Ps} {b : Bs} {w w' : World} (h : lorL l = some b) (hb : Below w.heap.size w w') : LorOut l w (.returned (.tuple #[.string ⟨b.toArray⟩, .bool true])) w' := ⟨by unfold lorR; rw [h], hb⟩
theorem below_drewP {n : Nat} {w W : World} (q : Nat) (h : Below n w W) : Below n w (W.drewN q) := h.trans ⟨rfl, rfl, rfl, Nat.le_refl _, fun _ _ => rfl⟩
theorem quiet_add {P : Program} {f : FuncId} {args : Array Value} {wr : World} {v : Value} (h : ∀ w, Calls P f args w fun e w' => e = .returned v ∧ w' = w) (nq a : Nat) : Calls P f args (wr.drewN (nq + a)) fun e w'' => e = .returned v ∧ ∃ n, w'' = wr.drewN (nq + n) :=
  (h _).mono fun e w' ⟨h1, h2⟩ => ⟨h1, a, h2⟩
theorem in_is (x a b : Int) (B : Bool) (h : (decide (a ≤ x) && decide (x ≤ b)) = B) (w : World) : Calls Try.prog 19 #[.int .i64 x, .int .i64 a, .int .i64 b] w fun e w' => e = .returned (.bool B) ∧ w' = w := by
  rw [← h]; exact in_any x a b w
theorem signText_any (x : Int) (c : UInt8) (h : (x = 0 ∧ c = 48) ∨ (x = 1 ∧ c = 49)) (w : World) : Calls Try.prog 22 #[.int .i64 x] w fun e w' => e = .returned (.string ⟨#[c]⟩) ∧ w' = w := by
  rcases h with ⟨rfl, rfl⟩ | ⟨rfl, rfl⟩
  · go_enter Try.func22, Try.ntmps22
    go_wp2
    go_ret
    exact ⟨rfl, rfl⟩
  · go_enter Try.func22, Try.ntmps22
    go_wp2
    go_ret
    exact ⟨rfl, rfl⟩

/-! ### The laws' own -/
theorem szP_any (a : Option Addr) (n c : Nat) (w : World) (h : n ≤ maxLen) : Calls Try.prog 7 #[.slice a n c, .int .i64 1048576] w fun e w' => e = .returned (.int .i64 (if n ≤ 1048576 then 1048576 - (n : Int) else -1)) ∧ w' = w := by
  unfold maxLen at h
  by_cases hn : n ≤ 1048576
  · rw [if_pos hn]
    have h1 : ¬ (1048576 : Int) - (n : Int) < 0 := by omega
    go_enter Try.func7, Try.ntmps7
    go_wp2
    go_ret
    exact ⟨rfl, rfl⟩
  · rw [if_neg hn]
    have h1 : (1048576 : Int) - (n : Int) < 0 := by omega
    go_enter Try.func7, Try.ntmps7
    go_wp2
    go_ret
    exact ⟨rfl, rfl⟩
theorem res_twoP {fn : Func} {p : Tmp} (h : fn.results = #[.cell p 39]) (tmps : Array Value) {w : World} {g : Nat} {x y : Int} (hp : tmps.getD p undef = .pointer (some ⟨g, 0, none⟩)) (hb : Two w g x y) : (results fn tmps).run Try.prog w = .ok (.agg #[.int .i64 x, .int .i64 y]) w := by
  have hp' : tmps[p]?.getD undef = .pointer (some ⟨g, 0, none⟩) := by simpa using hp
  simp [results, h, hp', asAddr, load_two hb]
def TwoInv (w : World) (x y : Int) (k : Nat) (wr : World) : Prop := Two wr w.heap.size x y ∧ Two wr (w.heap.size + 1) 0 0 ∧ Two wr (w.heap.size + 1 + 1) (if 0 < k then x else 0) (if 1 < k then y else 0) ∧ Below w.heap.size w wr
theorem twoInv0 (w : World) (x y : Int) : TwoInv w x y 0 (((w.alloc (.cells #[.int .i64 x, .int .i64 y] 39)).alloc (.cells #[.int .i64 0, .int .i64 0] 39)).alloc (.cells #[.int .i64 0, .int .i64 0] 39)) := by
  have h1 := ((two_new w x y).below (below_alloc _ (.cells #[.int .i64 0, .int .i64 0] 39))).below (below_alloc _ (.cells #[.int .i64 0, .int .i64 0] 39))
  have h2 := (two_new (w.alloc (.cells #[.int .i64 x, .int .i64 y] 39)) 0 0).below (below_alloc _ (.cells #[.int .i64 0, .int .i64 0] 39))
  have h3 := two_new ((w.alloc (.cells #[.int .i64 x, .int .i64 y] 39)).alloc (.cells #[.int .i64 0, .int .i64 0] 39)) 0 0
  have e1 : (w.alloc (.cells #[.int .i64 x, .int .i64 y] 39)).heap.size = w.heap.size + 1 := by simp
  have e2 : ((w.alloc (.cells #[.int .i64 x, .int .i64 y] 39)).alloc (.cells #[.int .i64 0, .int .i64 0] 39)).heap.size = w.heap.size + 1 + 1 := by simp
  rw [e1] at h2
  rw [e2] at h3
  exact ⟨h1, h2, h3, ((below_alloc w _).alloc (by simp) _).alloc (by simp; omega) _⟩
theorem twoInv1 {w wr : World} {x y : Int} (h : TwoInv w x y 0 wr) : TwoInv w x y 1 (wr.setCell ⟨w.heap.size + 1 + 1, 0, none⟩ (.int .i64 x)) :=
  ⟨h.1.other (by simp; omega) _, h.2.1.other (by simp) _, h.2.2.1.set0 x, h.2.2.2.setCell (p := ⟨w.heap.size + 1 + 1, 0, none⟩) (by simp; omega) _⟩
theorem twoInv2 {w wr : World} {x y : Int} (h : TwoInv w x y 1 wr) : TwoInv w x y 2 (wr.setCell ⟨w.heap.size + 1 + 1, 1, none⟩ (.int .i64 y)) :=
  ⟨h.1.other (by simp; omega) _, h.2.1.other (by simp) _, h.2.2.1.set1 y, h.2.2.2.setCell (p := ⟨w.heap.size + 1 + 1, 1, none⟩) (by simp; omega) _⟩
set_option maxHeartbeats 4000000 in
theorem toA2_any (x y : Int) (w : World) : Calls Try.prog 21 #[.agg #[.int .i64 x, .int .i64 y]] w fun e w' => e = .returned (.agg #[.int .i64 x, .int .i64 y]) ∧ Below w.heap.size w w' := by
  have H0 := Lib.hid (twoInv0 w x y)
  go_enter Try.func21, Try.ntmps21
  go_wp2
  go_loopw [4] (fun v wr => ∃ k : Nat, v = .int .i64 k ∧ k ≤ 2 ∧ Hid (TwoInv w x y k wr)) (fun v _ => 2 - (intOf v).toNat)
  case atStart => exact ⟨0, rfl, by omega, H0⟩
  case round =>
    obtain ⟨k, rfl, hk, HI⟩ := hrel
    have d0 := HI.out.1.cell0
    have d1 := HI.out.1.cell1
    have f0 := HI.out.2.2.1.frozen 0
    have f1 := HI.out.2.2.1.frozen 1
    have c0 := HI.out.2.2.1.cell0
    have c1 := HI.out.2.2.1.cell1
    rcases (show k = 0 ∨ k = 1 ∨ k = 2 by omega) with e | e | e
    · subst e
      have HN := Lib.hid (twoInv1 HI.out)
      go_wp2
      go_roundw
      case rel => exact ⟨1, rfl, by omega, HN⟩
      case measure => simp [intOf]
    · subst e
      have HN := Lib.hid (twoInv2 HI.out)
      go_wp2
      go_roundw
      case rel => exact ⟨2, rfl, by omega, HN⟩
      case measure => simp [intOf]
    · subst e
      have f2 := HI.out.2.1.frozen 0
      have f3 := HI.out.2.1.frozen 1
      have c2 := HI.out.2.1.cell0
      have c3 := HI.out.2.1.cell1
      have HT : Hid (Two wr (w.heap.size + 1 + 1) x y) := HI.out.2.2.1
      have e0 : wr.cell? ⟨w.heap.size + 1 + 1, 0, none⟩ = some (.int .i64 x) := HT.out.cell0
      have e1 : wr.cell? ⟨w.heap.size + 1 + 1, 1, none⟩ = some (.int .i64 y) := HT.out.cell1
      have HR : Hid (Two ((wr.setCell ⟨w.heap.size + 1, 0, none⟩ (.int .i64 x)).setCell ⟨w.heap.size + 1, 1, none⟩ (.int .i64 y)) (w.heap.size + 1) x y) := Lib.hid ((HI.out.2.1.set0 x).set1 y)
      have HB : Hid (Below w.heap.size w ((wr.setCell ⟨w.heap.size + 1, 0, none⟩ (.int .i64 x)).setCell ⟨w.heap.size + 1, 1, none⟩ (.int .i64 y))) := Lib.hid ((HI.out.2.2.2.setCell (p := ⟨w.heap.size + 1, 0, none⟩) (by simp) _).setCell (p := ⟨w.heap.size + 1, 1, none⟩) (by simp) _)
      clear c0 c1
      go_wp2
      refine bodyPost_ret (res_twoP rfl _ rfl HR.out) rfl ?_
      exact ⟨rfl, HB.out⟩
def cellP (l : Ps) (j : Nat) : Value := .int .i64 (if j % 2 = 0 then (atP l (j / 2)).1 else (atP l (j / 2)).2)
def fillP (l : Ps) (k : Nat) : Nat → Value := fun j => if j < k * 2 then cellP l j else .int .i64 0
theorem fillP_step {W : World} {g n : Nat} {t : TypeId} {l : Ps} {k : Nat} (h : W.rowIs g t n (fillP l k)) {x y : Int} (hx : atP l k = (x, y)) : ((W.setCell ⟨g, k * 2, none⟩ (.int .i64 x)).setCell ⟨g, k * 2 + 1, none⟩ (.int .i64 y)).rowIs g t n (fillP l (k + 1)) :=
  ((h.set _ _).set _ _).congr fun j hj => by
    unfold fillP
    by_cases e1 : j = k * 2 + 1
    · subst e1; rw [if_pos rfl, if_pos (by omega)]; unfold cellP; rw [if_neg (by omega), show (k * 2 + 1) / 2 = k by omega, hx]
    · rw [if_neg e1]
      by_cases e2 : j = k * 2
      · subst e2; rw [if_pos rfl, if_pos (by omega)]; unfold cellP; rw [if_pos (by omega), show k * 2 / 2 = k by omega, hx]
      · rw [if_neg e2]
        by_cases e3 : j < k * 2
        · rw [if_pos e3, if_pos (by omega)]
        · rw [if_neg e3, if_neg (by omega)]
theorem fillP_src {W : World} {g : Nat} {t : TypeId} {l : Ps} (h : W.rowIs g t (l.length * 2) (fillP l l.length)) : SrcP W (some ⟨g, 0, none⟩) g 0 l :=
  ⟨fun _ => rfl, fun j p hp => by
    have hj : j < l.length := (List.getElem?_eq_some_iff.1 hp).1
    have e : atP l j = p := by rw [atP_get hj] at hp; exact Option.some.inj hp
    have h1 := h.cell (i := j * 2) (by omega)
    have h2 := h.cell (i := j * 2 + 1) (by omega)
    unfold fillP cellP at h1 h2
    rw [if_pos (by omega), if_pos (by omega), show j * 2 / 2 = j by omega, e] at h1
    rw [if_pos (by omega), if_neg (by omega), show (j * 2 + 1) / 2 = j by omega, e] at h2
    rw [Nat.zero_add]
    exact ⟨h1, h2⟩⟩
theorem run_make_two (n : Nat) (hn : n ≤ 1048576) (w : World) : (Instr.makeSlice 25 (.int .i64 (n : Int)) (.int .i64 (n : Int))).run Try.prog w = .ok (.slice (some ⟨w.heap.size, 0, none⟩) n n) (w.alloc (.cells (madeCells #[.int .i64 0, .int .i64 0] (n * 2)) 39)) := by
  obtain ⟨i0, hi, hz0, hz1, hz2⟩ := info_parts infoPair
  have := run_make (P := Try.prog) w 25 39 i0 _ Try.underlying25 hi hz0 .i64 .i64 n n (by omega) (Int.le_refl _) (by rw [hz2]; omega) (by omega)
  simpa [hz1, Value.cells] using this
theorem made_two (w : World) (n : Nat) (l : Ps) : (w.alloc (.cells (madeCells #[.int .i64 0, .int .i64 0] (n * 2)) 39)).rowIs w.heap.size 39 (n * 2) (fillP l 0) := by
  have h := World.rowIs_alloc w (madeCells #[.int .i64 0, .int .i64 0] (n * 2)) 39 (fillP l 0) (fun i hi => by
    rw [size_madeCells] at hi
    have e : fillP l 0 i = .int .i64 0 := by unfold fillP; rw [if_neg (by omega)]
    rw [e]
    rcases Nat.mod_two_eq_zero_or_one i with h | h <;> simp [madeCells, hi, h])
  rwa [size_madeCells] at h
set_option maxHeartbeats 4000000 in
set_option maxRecDepth 8000 in
theorem toP_any (a : Option Addr) (b o c : Nat) (l : Ps) (w : World) (hs : SrcP w a b o l) (hl : l.length ≤ 1048576) :
    Calls Try.prog 9 #[.slice a l.length c] w fun e w' => e = .returned (.slice (some ⟨w.heap.size, 0, none⟩) l.length l.length) ∧ SrcP w' (some ⟨w.heap.size, 0, none⟩) w.heap.size 0 l ∧ Below w.heap.size w w' := by
  have HS := Lib.hid fun W hb => hs.below (w' := W) hb
  have HX := Lib.hid hs.1
  clear hs
  have hmk := run_make_two l.length hl
  have HR := Lib.hid (made_two w l.length l)
  go_enter Try.func9, Try.ntmps9
  go_wp2
  go_loopw [4] (fun v wr => ∃ k : Nat, v = .int .i64 k ∧ k ≤ l.length ∧ Hid (wr.rowIs w.heap.size 39 (l.length * 2) (fillP l k)) ∧ Hid (Below w.heap.size w wr)) (fun v _ => l.length - (intOf v).toNat)
  case atStart => exact ⟨0, rfl, Nat.zero_le _, HR, (Below.refl _ _).alloc (Nat.le_refl _) _⟩
  case round =>
    obtain ⟨k, rfl, hk, HW, HB⟩ := hrel
    by_cases hlt : k < l.length
    · obtain rfl := HX.out (by omega)
      have d1 := ((HS.out wr HB.out).2 k _ (atP_get hlt)).1
      have d2 := ((HS.out wr HB.out).2 k _ (atP_get hlt)).2
      obtain ⟨x, y, hxy⟩ : ∃ x y, atP l k = (x, y) := ⟨_, _, rfl⟩
      have HXY := Lib.hid hxy
      rw [hxy] at d1 d2
      simp only at d1 d2
      clear hxy
      have HE := Lib.hid fun w => toA2_any x y w
      have i0 : (0 : Int) ≤ (k : Int) := by omega
      have i1 : (k : Int) < (l.length : Int) := by omega
      go_wp2_with fail
      refine (HE.out _).mono ?_
      rintro e w5 ⟨rfl, hb5⟩
      have HB5 := Lib.hid (HB.out.trans (hb5.mono HB.out.size))
      have HW5 := Lib.hid (HW.out.of_block (hb5.block w.heap.size HW.out.lt))
      have c0 := HW5.out.cell (i := k * 2) (by omega)
      have c1 := HW5.out.cell (i := k * 2 + 1) (by omega)
      have f0 := HW5.out.frozen (k * 2)
      have f1 := HW5.out.frozen (k * 2 + 1)
      have HN := Lib.hid (fillP_step HW5.out HXY.out)
      have HB6 := Lib.hid ((HB5.out.setCell (p := ⟨w.heap.size, k * 2, none⟩) (Nat.le_refl _) (.int .i64 x)).setCell (p := ⟨w.heap.size, k * 2 + 1, none⟩) (Nat.le_refl _) (.int .i64 y))
      clear hb5
      go_wp2
      go_roundw
      case rel => exact ⟨k + 1, by go_num, by omega, HN, HB6⟩
      case measure => simp [intOf]; omega
    · obtain rfl : k = l.length := by omega
      go_wp2
      go_ret
      exact ⟨rfl, fillP_src HW.out, HB.out⟩
set_option maxHeartbeats 4000000 in
set_option maxRecDepth 8000 in
theorem eqPI_yes (a1 a2 : Option Addr) (b1 o1 c1 b2 o2 c2 : Nat) (l : Ps) (w : World) (hl : l.length ≤ 1048576) (h1 : SrcP w a1 b1 o1 l) (h2 : SrcP w a2 b2 o2 l) :
    Calls Try.prog 11 #[.slice a1 l.length c1, .slice a2 l.length c2] w fun e w' => e = .returned (.bool true) ∧ Below w.heap.size w w' := by
  have H1 := Lib.hid fun W hb => h1.below (w' := W) hb
  have H2 := Lib.hid fun W hb => h2.below (w' := W) hb
  clear h1 h2
  go_enter Try.func11, Try.ntmps11
  go_wp2
  go_loopw [5] (fun v wr => ∃ i : Nat, v = .int .i64 i ∧ i ≤ l.length ∧ Hid (Below w.heap.size w wr)) (fun v _ => l.length - (intOf v).toNat)
  case atStart => exact ⟨0, rfl, Nat.zero_le _, Lib.hid (Below.refl _ _)⟩
  case round =>
    obtain ⟨i, rfl, hi, HB⟩ := hrel
    by_cases hlt : i < l.length
    · obtain rfl := (H1.out w (Below.refl _ _)).1 (by omega)
      obtain rfl := (H2.out w (Below.refl _ _)).1 (by omega)
      have d1 := ((H1.out wr HB.out).2 _ _ (atP_get hlt)).1
      have d2 := ((H1.out wr HB.out).2 _ _ (atP_get hlt)).2
      have d3 := ((H2.out wr HB.out).2 _ _ (atP_get hlt)).1
      have d4 := ((H2.out wr HB.out).2 _ _ (atP_get hlt)).2
      generalize (atP l i).1 = x at d1 d3
      generalize (atP l i).2 = y at d2 d4
      have HE := Lib.hid fun w => eqA2_yes (x : Int) (y : Int) w
      have i0 : (0 : Int) ≤ (i : Int) := by omega
      have i1 : (i : Int) < (l.length : Int) := by omega
      go_wp2
      go_region_with (go_at_call 23; refine (HE.out _).mono ?_; rintro e w5 ⟨rfl, hb5⟩; have HB5 := Lib.hid (HB.out.drew.trans (hb5.mono HB.out.size)); clear hb5)
      all_goals (
        go_wp2
        go_roundw
        case rel => exact ⟨i + 1, by go_num, by omega, HB5⟩
        case measure => simp [intOf]; omega)
    · go_wp2
      go_ret
      exact ⟨rfl, HB.out⟩
end Go.Proofs.Ytijhfmjkiijhiaa
