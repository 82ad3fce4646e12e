/-
  Triples of numbers in memory; the laws' own eqIntA3, eqIntA3S, markIntA3S, heldIntA3S. Used by the claims on chapter 6.
-/
import Derived.Test.YtgdiffdpjpkleaaSeqW
import Derived.Deep.RegionWith
import Derived.Deep.RegionLaw
namespace Go.Proofs.Ytgdiffdpjpkleaa
open Go.RowKit
set_option linter.unusedVariables false

def Three (w : World) (g : Nat) (x y z : Int) : Prop := w.heap[g]? = some (.cells #[.int .i64 x, .int .i64 y, .int .i64 z] 76 (0, 0))
theorem Three.cell0 {w : World} {g : Nat} {x y z : Int} (h : Three w g x y z) : w.cell? ⟨g, 0, none⟩ = some (.int .i64 x) := by unfold World.cell?; unfold Three at h; simp [h]
theorem Three.cell1 {w : World} {g : Nat} {x y z : Int} (h : Three w g x y z) : w.cell? ⟨g, 1, none⟩ = some (.int .i64 y) := by unfold World.cell?; unfold Three at h; simp [h]
theorem Three.cell2 {w : World} {g : Nat} {x y z : Int} (h : Three w g x y z) : w.cell? ⟨g, 2, none⟩ = some (.int .i64 z) := by unfold World.cell?; unfold Three at h; simp [h]
theorem Three.below {w w' : World} {g : Nat} {x y z : Int} (h : Three w g x y z) (hb : Below w.heap.size w w') : Three w' g x y z := (hb.block g (Array.getElem?_eq_some_iff.1 h).1).trans h
theorem three_new (w : World) (x y z : Int) : Three (w.alloc (.cells #[.int .i64 x, .int .i64 y, .int .i64 z] 76)) w.heap.size x y z := heap_alloc_new _ _
def trs (l : List (Nat × Nat × Nat)) : List Value := l.flatMap fun p => [.int .i64 (p.1 : Int), .int .i64 (p.2.1 : Int), .int .i64 (p.2.2 : Int)]
theorem trs_snoc (l : List (Nat × Nat × Nat)) (i j k : Nat) : trs (l ++ [(i, j, k)]) = trs l ++ [.int .i64 (i : Int), .int .i64 (j : Int), .int .i64 (k : Int)] := by simp [trs]
theorem trs_len (l : List (Nat × Nat × Nat)) : (trs l).length = 3 * l.length := by
  induction l with
  | nil => rfl
  | cons p r ih => simp only [trs, List.flatMap_cons, List.length_append, List.length_cons, List.length_nil] at ih ⊢; omega
theorem trs_at {l : List (Nat × Nat × Nat)} {k : Nat} (h : k < l.length) : (trs l)[3 * k]? = some (.int .i64 (l[k].1 : Int)) ∧ (trs l)[3 * k + 1]? = some (.int .i64 (l[k].2.1 : Int)) ∧ (trs l)[3 * k + 2]? = some (.int .i64 (l[k].2.2 : Int)) := by
  induction l generalizing k with
  | nil => simp at h
  | cons p r ih =>
    cases k with
    | zero => exact ⟨rfl, rfl, rfl⟩
    | succ k =>
      have := ih (k := k) (by simpa using h)
      have e1 : 3 * (k + 1) = 3 * k + 1 + 1 + 1 := by omega
      have e2 : 3 * (k + 1) + 1 = 3 * k + 1 + 1 + 1 + 1 := by omega
      have e3 : 3 * (k + 1) + 2 = 3 * k + 2 + 1 + 1 + 1 := by omega
      rw [e3, e2, e1]
      exact this
theorem infoTri : (Try.prog.info? 76).map (fun i => (i.zero, i.size, i.bytes)) = some (some (.agg #[.int .i64 0, .int .i64 0, .int .i64 0]), 3, 24) := by kernel_rfl
theorem cell_three_new (w : World) (x y z : Value) (t : TypeId) : ∀ (j : Nat) u, [x, y, z][j]? = some u → (w.alloc (.cells #[x, y, z] t)).cell? ((⟨w.heap.size, 0, none⟩ : Addr).add j) = some u := fun j u h => by
  rw [Addr.add_lit, World.cell?_alloc_new]
  match j, h with
  | 0, h => simpa using h
  | 1, h => simpa using h
  | 2, h => simpa using h
  | j + 3, h => simp at h
set_option maxHeartbeats 2000000 in
theorem eqA3_yes (x y z : Int) (w : World) :
    Calls Try.prog 100 #[.agg #[.int .i64 x, .int .i64 y, .int .i64 z], .agg #[.int .i64 x, .int .i64 y, .int .i64 z]] w fun e w' => e = .returned (.bool true) ∧ Below w.heap.size w w' := by
  go_enter Try.func100, Try.ntmps100
  go_wp2
  have hT1 := (three_new w x y z).below (below_alloc _ (.cells #[.int .i64 x, .int .i64 y, .int .i64 z] 76))
  have hT2 := three_new (w.alloc (.cells #[.int .i64 x, .int .i64 y, .int .i64 z] 76)) x y z
  have e0 : (w.alloc (.cells #[.int .i64 x, .int .i64 y, .int .i64 z] 76)).heap.size = w.heap.size + 1 := by simp
  rw [e0] at hT2
  have hb0 := (below_alloc w (.cells #[.int .i64 x, .int .i64 y, .int .i64 z] 76)).alloc (by simp) (.cells #[.int .i64 x, .int .i64 y, .int .i64 z] 76)
  generalize ((w.alloc (.cells #[.int .i64 x, .int .i64 y, .int .i64 z] 76)).alloc (.cells #[.int .i64 x, .int .i64 y, .int .i64 z] 76)) = W0 at hT1 hT2 hb0 ⊢
  have HB0 := Lib.hid hb0
  have H1 := Lib.hid hT1
  have H2 := Lib.hid hT2
  clear hb0 hT1 hT2 e0
  go_loopw [5] (fun v wr => ∃ k q : Nat, v = .int .i64 k ∧ k ≤ 3 ∧ wr = W0.drewN q) (fun v _ => 3 - (intOf v).toNat)
  case atStart => exact ⟨0, 0, rfl, by omega, rfl⟩
  case round =>
    obtain ⟨k, q, rfl, hk, rfl⟩ := hrel
    have d1 : W0.cell? ⟨w.heap.size, 0, none⟩ = some (.int .i64 x) := H1.out.cell0
    have d2 : W0.cell? ⟨w.heap.size, 1, none⟩ = some (.int .i64 y) := H1.out.cell1
    have d5 : W0.cell? ⟨w.heap.size, 2, none⟩ = some (.int .i64 z) := H1.out.cell2
    have d6 : W0.cell? ⟨w.heap.size + 1, 2, none⟩ = some (.int .i64 z) := H2.out.cell2
    have d3 : W0.cell? ⟨w.heap.size + 1, 0, none⟩ = some (.int .i64 x) := H2.out.cell0
    have d4 : W0.cell? ⟨w.heap.size + 1, 1, none⟩ = some (.int .i64 y) := H2.out.cell1
    rcases (show k = 0 ∨ k = 1 ∨ k = 2 ∨ k = 3 by omega) with e | e | e | e
    · subst e
      go_wp2
      go_quiet (fail)
      go_wp2
      go_roundw
      case rel => exact ⟨1, _, by go_num, by omega, rfl⟩
      case measure => simp [intOf]
    · subst e
      go_wp2
      go_quiet (fail)
      go_wp2
      go_roundw
      case rel => exact ⟨2, _, by go_num, by omega, rfl⟩
      case measure => simp [intOf]
    · subst e
      go_wp2
      go_quiet (fail)
      go_wp2
      go_roundw
      case rel => exact ⟨3, _, by go_num, by omega, rfl⟩
      case measure => simp [intOf]
    · subst e
      go_wp2
      go_ret
      exact ⟨rfl, HB0.out.trans ⟨rfl, rfl, rfl, Nat.le_refl _, fun _ _ => rfl⟩⟩

set_option maxHeartbeats 4000000 in
set_option maxRecDepth 8000 in
theorem eqT_yes3 (a1 a2 : Option Addr) (g1 g2 c1 c2 : Nat) (l : List (Nat × Nat × Nat)) (w : World) (hl : l.length ≤ 1000) (h1 : SrcV w a1 g1 (trs l)) (h2 : SrcV w a2 g2 (trs l)) :
    Calls Try.prog 46 #[.slice a1 l.length c1, .slice a2 l.length c2] w fun e w' => e = .returned (.bool true) ∧ Below w.heap.size w w' := by
  have H1 := Lib.hid fun W hb => h1.below (w' := W) hb
  have H2 := Lib.hid fun W hb => h2.below (w' := W) hb
  clear h1 h2
  go_enter Try.func46, Try.ntmps46
  go_wp2
  go_loopw [5] (fun v wr => ∃ i : Nat, v = .int .i64 i ∧ i ≤ l.length ∧ Hid (Below w.heap.size w wr)) (fun v _ => l.length - (intOf v).toNat)
  case atStart => exact ⟨0, rfl, Nat.zero_le _, Lib.hid (Below.refl _ _)⟩
  case round =>
    obtain ⟨i, rfl, hi, HB⟩ := hrel
    by_cases hlt : i < l.length
    · have hp0 : 0 < (trs l).length := by rw [trs_len]; omega
      obtain rfl := (H1.out w (Below.refl _ _)).1 hp0
      obtain rfl := (H2.out w (Below.refl _ _)).1 hp0
      have d1 := (H1.out wr HB.out).2 _ _ (trs_at hlt).1
      have d2 := (H1.out wr HB.out).2 _ _ (trs_at hlt).2.1
      have d5 := (H1.out wr HB.out).2 _ _ (trs_at hlt).2.2
      have d3 := (H2.out wr HB.out).2 _ _ (trs_at hlt).1
      have d4 := (H2.out wr HB.out).2 _ _ (trs_at hlt).2.1
      have d6 := (H2.out wr HB.out).2 _ _ (trs_at hlt).2.2
      generalize l[i].1 = x at d1 d3
      generalize l[i].2.1 = y at d2 d4
      generalize l[i].2.2 = z at d5 d6
      have HE := Lib.hid fun w => eqA3_yes (x : Int) (y : Int) (z : Int) w
      have i0 : (0 : Int) ≤ (i : Int) := by omega
      have i1 : (i : Int) < (l.length : Int) := by omega
      have e2 : i * 3 = 3 * i := Nat.mul_comm _ _
      rw [← e2] at d1 d2 d3 d4 d5 d6
      clear e2
      go_wp2
      go_region_with (go_at_call 100; refine (HE.out _).mono ?_; rintro e w5 ⟨rfl, hb5⟩; have HB5 := Lib.hid (HB.out.drew.trans (hb5.mono HB.out.size)); clear hb5)
      all_goals (
        go_wp2
        go_roundw
        case rel => exact ⟨i + 1, by go_num, by omega, HB5⟩
        case measure => simp [intOf]; omega)
    · go_wp2
      go_ret
      exact ⟨rfl, HB.out⟩

set_option maxHeartbeats 4000000 in
theorem markT3_any (a : Option Addr) (g : Nat) (l : List (Nat × Nat × Nat)) (c : Nat) (w : World) (ha : 0 < (trs l).length → a = some ⟨g, 0, none⟩) (h2 : l.length ≤ 1000) (ho : ∀ j, j < (trs l).length → (∃ v, w.cell? ⟨g, j, none⟩ = some v) ∧ w.frozen? ⟨g, j, none⟩ = false) :
    Calls Try.prog 47 #[.slice a l.length c, .int .i64 1] w fun e w' => e = .returned (.int .i64 ((1 + (trs l).length : Nat) : Int)) ∧ w.grownBy w' (some g) ∧ ∀ j, j < (trs l).length → w'.cell? ⟨g, j, none⟩ = some (.int .i64 ((1 + j : Nat) : Int)) := by
  rw [trs_len] at ha ho ⊢
  have HA := Lib.hid ha
  have HO : Hid (MarkedI w w g (3 * l.length) 0) := Lib.hid ⟨⟨rfl, rfl, rfl, Nat.le_refl _, fun _ _ _ => rfl⟩, fun j hj => absurd hj (by omega), ho⟩
  clear ha ho
  go_enter Try.func47, Try.ntmps47
  go_wp2
  go_loopw [1, 5] (fun q v wr => ∃ (i : Nat), v = .int .i64 i ∧ i ≤ l.length ∧ q = .int .i64 ((1 + i * 3 : Nat) : Int) ∧ Hid (MarkedI w wr g (3 * l.length) (i * 3))) (fun _ v _ => l.length - (intOf v).toNat)
  case atStart => exact ⟨0, rfl, Nat.zero_le _, rfl, HO⟩
  case round =>
    obtain ⟨i, rfl, hi, rfl, HM⟩ := hrel
    by_cases hlt : i < l.length
    · obtain rfl := HA.out (by omega)
      have i0 : (0 : Int) ≤ (i : Int) := by omega
      have i1 : (i : Int) < (l.length : Int) := by omega
      go_wp2
      go_loopw [1, 6] (fun q v wr2 => ∃ (j : Nat), v = .int .i64 j ∧ j ≤ 3 ∧ q = .int .i64 ((1 + (i * 3 + j) : Nat) : Int) ∧ Hid (MarkedI w wr2 g (3 * l.length) (i * 3 + j))) (fun _ v _ => 3 - (intOf v).toNat)
      case atStart => exact ⟨0, rfl, by omega, rfl, HM⟩
      case round =>
        obtain ⟨j, rfl, hj, rfl, HN⟩ := hrel
        rcases (show j = 0 ∨ j = 1 ∨ j = 2 ∨ j = 3 by omega) with e | e | e | e
        · subst e
          have HN0 : Hid (MarkedI w wr g (3 * l.length) (i * 3)) := HN
          obtain ⟨⟨v, hv⟩, hf⟩ := HN0.out.open_ (i * 3) (by omega)
          have HS := Lib.hid (HN0.out.step (i := i * 3) (by omega))
          go_wp2
          go_roundw
          case rel => exact ⟨1, rfl, by omega, by congr 1, HS⟩
          case measure => simp [intOf]
        · subst e
          obtain ⟨⟨v, hv⟩, hf⟩ := HN.out.open_ (i * 3 + 1) (by omega)
          have HS := Lib.hid (HN.out.step (i := i * 3 + 1) (by omega))
          go_wp2
          go_roundw
          case rel => exact ⟨2, rfl, by omega, by congr 1, HS⟩
          case measure => simp [intOf]
        · subst e
          obtain ⟨⟨v, hv⟩, hf⟩ := HN.out.open_ (i * 3 + 2) (by omega)
          have HS := Lib.hid (HN.out.step (i := i * 3 + 2) (by omega))
          go_wp2
          go_roundw
          case rel => exact ⟨3, rfl, by omega, by congr 1, HS⟩
          case measure => simp [intOf]
        · subst e
          have HN2 : Hid (MarkedI w wr g (3 * l.length) ((i + 1) * 3)) := by rw [show (i + 1) * 3 = i * 3 + 3 by omega]; exact HN
          go_wp2
          go_roundw
          case rel => exact ⟨i + 1, by go_num, by omega, by congr 1; omega, HN2⟩
          case measure => simp [intOf]; omega
    · obtain rfl : i = l.length := by omega
      go_wp2
      go_ret
      refine ⟨by rw [Nat.mul_comm 3]; rfl, HM.out.grown, fun j hj => HM.out.done j (by omega)⟩

set_option maxHeartbeats 4000000 in
theorem heldT3_any (a : Option Addr) (g : Nat) (l : List (Nat × Nat × Nat)) (c : Nat) (w : World) (ha : 0 < (trs l).length → a = some ⟨g, 0, none⟩) (h2 : l.length ≤ 1000) (ho : ∀ j, j < (trs l).length → w.cell? ⟨g, j, none⟩ = some (.int .i64 ((1 + j : Nat) : Int))) :
    Calls Try.prog 48 #[.slice a l.length c, .int .i64 1] w fun e w' => e = .returned (.int .i64 ((1 + (trs l).length : Nat) : Int)) ∧ Below w.heap.size w w' := by
  rw [trs_len] at ha ho ⊢
  have HA := Lib.hid ha
  have HO := Lib.hid ho
  clear ha ho
  go_enter Try.func48, Try.ntmps48
  go_wp2
  go_loopw [1, 5] (fun q v wr => ∃ (i : Nat), v = .int .i64 i ∧ i ≤ l.length ∧ q = .int .i64 ((1 + i * 3 : Nat) : Int) ∧ wr = w) (fun _ v _ => l.length - (intOf v).toNat)
  case atStart => exact ⟨0, rfl, Nat.zero_le _, rfl, rfl⟩
  case round =>
    obtain ⟨i, rfl, hi, rfl, hwr⟩ := hrel
    subst hwr
    by_cases hlt : i < l.length
    · obtain rfl := HA.out (by omega)
      have i0 : (0 : Int) ≤ (i : Int) := by omega
      have i1 : (i : Int) < (l.length : Int) := by omega
      have d0 := HO.out (i * 3) (by omega)
      have d1 := HO.out (i * 3 + 1) (by omega)
      have d2 := HO.out (i * 3 + 2) (by omega)
      go_wp2
      go_loopw [1, 6] (fun q v wr2 => ∃ (j : Nat), v = .int .i64 j ∧ j ≤ 3 ∧ q = .int .i64 ((1 + (i * 3 + j) : Nat) : Int) ∧ wr2 = wr) (fun _ v _ => 3 - (intOf v).toNat)
      case atStart => exact ⟨0, rfl, by omega, rfl, rfl⟩
      case round =>
        obtain ⟨j, rfl, hj, rfl, hwr2⟩ := hrel
        subst hwr2
        rcases (show j = 0 ∨ j = 1 ∨ j = 2 ∨ j = 3 by omega) with e | e | e | e
        · subst e
          go_wp2
          go_roundw
          case rel => exact ⟨1, rfl, by omega, by congr 1, trivial⟩
          case measure => simp [intOf]
        · subst e
          go_wp2
          go_roundw
          case rel => exact ⟨2, rfl, by omega, by congr 1, trivial⟩
          case measure => simp [intOf]
        · subst e
          go_wp2
          go_roundw
          case rel => exact ⟨3, rfl, by omega, by congr 1, trivial⟩
          case measure => simp [intOf]
        · subst e
          go_wp2
          go_roundw
          case rel => exact ⟨i + 1, by go_num, by omega, by congr 1; omega, trivial⟩
          case measure => simp [intOf]; omega
    · obtain rfl : i = l.length := by omega
      go_wp2
      go_ret
      exact ⟨by rw [Nat.mul_comm 3]; rfl, Below.refl _ _⟩
end Go.Proofs.Ytgdiffdpjpkleaa
