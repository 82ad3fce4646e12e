/-
  A set of letters: ten bools in a block; setOf of the program; such a set as a map's key. Used by the claims on chapter 11.
-/
import Derived.Test.YthkafalpjokfeaaBhW
import Derived.DeepKeys4
import Derived.Maps.OwnSet
namespace Go.Proofs.Ythkafalpjokfeaa
open Go.RowKit Go.Maps Go.WideMaps
set_option linter.unusedVariables false

abbrev ten (f : Nat → Bool) : Array Value := #[.bool (f 0), .bool (f 1), .bool (f 2), .bool (f 3), .bool (f 4), .bool (f 5), .bool (f 6), .bool (f 7), .bool (f 8), .bool (f 9)]
/-- Ten bools in a block. -/
def Ten (w : World) (g : Nat) (f : Nat → Bool) : Prop := w.heap[g]? = some (.cells (ten f) 122 (0, 0))
theorem Ten.cell {w : World} {g : Nat} {f : Nat → Bool} (h : Ten w g f) (j : Nat) (hj : j < 10) : w.cell? ⟨g, j, none⟩ = some (.bool (f j)) := by
  unfold World.cell?; unfold Ten ten at h
  rcases (show j = 0 ∨ j = 1 ∨ j = 2 ∨ j = 3 ∨ j = 4 ∨ j = 5 ∨ j = 6 ∨ j = 7 ∨ j = 8 ∨ j = 9 by omega) with rfl | rfl | rfl | rfl | rfl | rfl | rfl | rfl | rfl | rfl <;> simp [h]
theorem Ten.frozen {w : World} {g : Nat} {f : Nat → Bool} (h : Ten w g f) (j : Nat) : w.frozen? ⟨g, j, none⟩ = false := by
  unfold World.frozen?; unfold Ten at h; simp [h]
theorem Ten.set {w : World} {g : Nat} {f : Nat → Bool} (h : Ten w g f) (j : Nat) (hj : j < 10) (u : Bool) : Ten (w.setCell ⟨g, j, none⟩ (.bool u)) g (fun i => if i = j then u else f i) := by
  unfold Ten ten at h ⊢
  rcases (show j = 0 ∨ j = 1 ∨ j = 2 ∨ j = 3 ∨ j = 4 ∨ j = 5 ∨ j = 6 ∨ j = 7 ∨ j = 8 ∨ j = 9 by omega) with rfl | rfl | rfl | rfl | rfl | rfl | rfl | rfl | rfl | rfl <;> simp [World.setCell, Array.getElem?_modify, h]
theorem Ten.congr {w : World} {g : Nat} {f f' : Nat → Bool} (h : Ten w g f) (e : ∀ j, j < 10 → f j = f' j) : Ten w g f' := by
  unfold Ten ten at h ⊢
  rw [← e 0 (by omega), ← e 1 (by omega), ← e 2 (by omega), ← e 3 (by omega), ← e 4 (by omega), ← e 5 (by omega), ← e 6 (by omega), ← e 7 (by omega), ← e 8 (by omega), ← e 9 (by omega)]; exact h
theorem ten_size : (Try.prog.info? 122).map (·.size) = some 10 := by kernel_rfl
theorem load_ten {w : World} {g : Nat} {f : Nat → Bool} (h : Ten w g f) : (loadVar 122 ⟨g, 0, none⟩).run Try.prog w = .ok (.agg (ten f)) w :=
  run_loadVar_row w g 122 122 (ten f) (0, 0) _ h Try.underlying122 rfl ten_size
theorem Ten.below {w w' : World} {g : Nat} {f : Nat → Bool} (h : Ten w g f) (hb : Below w.heap.size w w') : Ten w' g f := (hb.block g (Array.getElem?_eq_some_iff.1 h).1).trans h
theorem Ten.other {w : World} {g : Nat} {f : Nat → Bool} (h : Ten w g f) {p : Addr} (hp : p.block ≠ g) (v : Value) : Ten (w.setCell p v) g f := by
  unfold Ten at h ⊢
  simp [World.setCell, Array.getElem?_modify, hp, h]
theorem ten_new (w : World) (f : Nat → Bool) : Ten (w.alloc (.cells (ten f) 122)) w.heap.size f := heap_alloc_new _ _
theorem res_ten {fn : Func} {p : Tmp} (h : fn.results = #[.cell p 122]) (tmps : Array Value) {w : World} {g : Nat} {f : Nat → Bool} (hp : tmps.getD p undef = .pointer (some ⟨g, 0, none⟩)) (hb : Ten w g f) : (results fn tmps).run Try.prog w = .ok (.agg (ten f)) w := by
  have hp' : tmps[p]?.getD undef = .pointer (some ⟨g, 0, none⟩) := by simpa using hp
  simp [results, h, hp', asAddr, load_ten hb]

/-! ### As a key -/
set_option maxRecDepth 1000000 in
theorem laidAll : laidOutB Try.prog = true := by kernel_rfl
theorem rowT : (122 : TypeId) < Try.prog.types.size := of_decide_eq_true (by kernel_rfl)
theorem wideT : (match Try.prog.underlying 122 with | some (.array _ _) | some (.struct _) => true | _ => false) = true := by rw [Try.underlying122]
set_option maxRecDepth 1000000 in
theorem lawT : Keyed Try.prog 122 := Keyed.of_law (deep_law_laid laidAll (m := 2) (by omega) rowT (by kernel_rfl) wideT)
set_option maxRecDepth 1000000 in
theorem keyT_some (f : Nat → Bool) : ∃ l, keyOf Try.prog 122 (.agg (ten f)) = some l := by
  generalize f 0 = b0, f 1 = b1, f 2 = b2, f 3 = b3, f 4 = b4, f 5 = b5, f 6 = b6, f 7 = b7, f 8 = b8, f 9 = b9
  exact ⟨.string (keyBytes [.bool b0, .bool b1, .bool b2, .bool b3, .bool b4, .bool b5, .bool b6, .bool b7, .bool b8, .bool b9]), by kernel_rfl⟩
set_option maxRecDepth 1000000 in
noncomputable def keyT (f : Nat → Bool) : Lit := Classical.choose (keyT_some f)
set_option maxRecDepth 1000000 in
theorem keyT_of (f : Nat → Bool) : keyOf Try.prog 122 (.agg (ten f)) = some (keyT f) := by
  unfold keyT
  exact Classical.choose_spec (keyT_some f)
set_option maxRecDepth 1000000 in
theorem keyT_ok (f : Nat → Bool) : WideAt.IsKeyLit (keyT f) := lawT.key (keyT_of f)
set_option maxRecDepth 1000000 in
theorem keyT_inj {f f' : Nat → Bool} (h : keyT f = keyT f') : ∀ j, j < 10 → f j = f' j := by
  have h1 := lawT.inj (keyT_of f) (h ▸ keyT_of f')
  intro j hj
  have h2 : (ten f)[j]? = (ten f')[j]? := by injection h1 with h1; rw [h1]
  rcases (show j = 0 ∨ j = 1 ∨ j = 2 ∨ j = 3 ∨ j = 4 ∨ j = 5 ∨ j = 6 ∨ j = 7 ∨ j = 8 ∨ j = 9 by omega) with rfl | rfl | rfl | rfl | rfl | rfl | rfl | rfl | rfl | rfl <;> simpa using h2

/-! ### setOf -/
def inB (m : List Nat) (j : Nat) : Bool := decide (j ∈ m)
set_option maxHeartbeats 8000000 in
set_option maxRecDepth 8000 in
theorem setOf_any (a1 : Option Addr) (g1 c1 : Nat) (m : List Nat) (w : World) (hs : SrcV w a1 g1 (ints m)) (hm : ∀ i ∈ m, i < 10) (hml : m.length ≤ 10) :
    Calls Try.prog 115 #[.slice a1 m.length c1] w fun e w' => e = .returned (.agg (ten (inB m))) ∧ Below w.heap.size w w' := by
  have HV := Lib.hid fun W hb => hs.below (w' := W) hb
  have HM := Lib.hid hm
  have e0 : (w.alloc (.cells (ten fun _ => false) 122)).heap.size = w.heap.size + 1 := by simp
  have HR0 := Lib.hid ((ten_new w (fun _ => false)).below (below_alloc _ (.cells (ten fun _ => false) 122)))
  have HT0 : Hid (Ten ((w.alloc (.cells (ten fun _ => false) 122)).alloc (.cells (ten fun _ => false) 122)) (w.heap.size + 1) (inB (m.take 0))) := Lib.hid (by
    have := ten_new (w.alloc (.cells (ten fun _ => false) 122)) (fun _ => false)
    rw [e0] at this
    exact this)
  have HB0 := Lib.hid ((below_alloc w (.cells (ten fun _ => false) 122)).alloc (by simp) (.cells (ten fun _ => false) 122))
  clear e0 hs hm
  go_enter Try.func115, Try.ntmps115
  go_wp2
  go_loopw [9] (fun v wr => ∃ k : Nat, v = .int .i64 k ∧ k ≤ m.length ∧ Hid (Ten wr w.heap.size (fun _ => false)) ∧ Hid (Ten wr (w.heap.size + 1) (inB (m.take k))) ∧ Hid (Below w.heap.size w wr)) (fun v _ => m.length - (intOf v).toNat)
  case atStart => exact ⟨0, rfl, Nat.zero_le _, HR0, HT0, HB0⟩
  case round =>
    obtain ⟨k, rfl, hk, HR, HT, HB⟩ := hrel
    by_cases hlt : k < m.length
    · obtain rfl := (HV.out wr HB.out).1 (by rw [ints_len]; omega)
      have d1 := (HV.out wr HB.out).2 k _ (ints_at hlt)
      have hi := HM.out _ (List.getElem_mem hlt)
      have HTk : Hid (m.take (k + 1) = m.take k ++ [m[k]]) := Lib.hid (by rw [List.take_add_one, List.getElem?_eq_getElem hlt]; rfl)
      generalize m[k] = i at d1 hi HTk
      have k4 := HT.out.cell i hi
      have f4 := HT.out.frozen i
      have i0 : (0 : Int) ≤ (i : Int) := by omega
      have i1 : (i : Int) < 10 := by omega
      have HN : Hid (Ten (wr.setCell ⟨w.heap.size + 1, i, none⟩ (.bool true)) (w.heap.size + 1) (inB (m.take (k + 1)))) := Lib.hid ((HT.out.set i hi true).congr fun j hj => by
        unfold inB
        rw [HTk.out]
        by_cases e : j = i
        · rw [if_pos e, e]; simp
        · rw [if_neg e]
          exact decide_eq_decide.2 (by simp [e]))
      have HR2 := Lib.hid (HR.out.other (p := ⟨w.heap.size + 1, i, none⟩) (by simp) (.bool true))
      have HB2 := Lib.hid (HB.out.setCell (p := ⟨w.heap.size + 1, i, none⟩) (by simp) (.bool true))
      go_wp2
      go_roundw
      case rel => exact ⟨k + 1, by go_num, by omega, HR2, HN, HB2⟩
      case measure => simp [intOf]; omega
    · obtain rfl : k = m.length := by omega
      rw [List.take_length] at HT
      have l0 := load_ten HT.out
      have t0 := HT.out.cell 0 (by omega)
      have r0 := HR.out.cell 0 (by omega)
      have f0 := HR.out.frozen 0
      have t1 := HT.out.cell 1 (by omega)
      have r1 := HR.out.cell 1 (by omega)
      have f1 := HR.out.frozen 1
      have t2 := HT.out.cell 2 (by omega)
      have r2 := HR.out.cell 2 (by omega)
      have f2 := HR.out.frozen 2
      have t3 := HT.out.cell 3 (by omega)
      have r3 := HR.out.cell 3 (by omega)
      have f3 := HR.out.frozen 3
      have t4 := HT.out.cell 4 (by omega)
      have r4 := HR.out.cell 4 (by omega)
      have f4 := HR.out.frozen 4
      have t5 := HT.out.cell 5 (by omega)
      have r5 := HR.out.cell 5 (by omega)
      have f5 := HR.out.frozen 5
      have t6 := HT.out.cell 6 (by omega)
      have r6 := HR.out.cell 6 (by omega)
      have f6 := HR.out.frozen 6
      have t7 := HT.out.cell 7 (by omega)
      have r7 := HR.out.cell 7 (by omega)
      have f7 := HR.out.frozen 7
      have t8 := HT.out.cell 8 (by omega)
      have r8 := HR.out.cell 8 (by omega)
      have f8 := HR.out.frozen 8
      have t9 := HT.out.cell 9 (by omega)
      have r9 := HR.out.cell 9 (by omega)
      have f9 := HR.out.frozen 9
      go_wp2
      refine bodyPost_ret (res_ten rfl _ rfl (((((((((((HR.out.set 0 (by omega) _).set 1 (by omega) _).set 2 (by omega) _).set 3 (by omega) _).set 4 (by omega) _).set 5 (by omega) _).set 6 (by omega) _).set 7 (by omega) _).set 8 (by omega) _).set 9 (by omega) _))) rfl ?_
      exact ⟨rfl, ((((((((((HB.out.setCell (p := ⟨w.heap.size, 0, none⟩) (by simp) _).setCell (p := ⟨w.heap.size, 1, none⟩) (by simp) _).setCell (p := ⟨w.heap.size, 2, none⟩) (by simp) _).setCell (p := ⟨w.heap.size, 3, none⟩) (by simp) _).setCell (p := ⟨w.heap.size, 4, none⟩) (by simp) _).setCell (p := ⟨w.heap.size, 5, none⟩) (by simp) _).setCell (p := ⟨w.heap.size, 6, none⟩) (by simp) _).setCell (p := ⟨w.heap.size, 7, none⟩) (by simp) _).setCell (p := ⟨w.heap.size, 8, none⟩) (by simp) _).setCell (p := ⟨w.heap.size, 9, none⟩) (by simp) _)⟩
end Go.Proofs.Ythkafalpjokfeaa
