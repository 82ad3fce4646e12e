/-
  Jobs and hops in memory; the laws' own toJobS, toHopS, eqJobS, eqHopS, markJobS, markHopS, heldHopS, szJobS, szHopS. Used by the claims on chapter 10.
-/
import Derived.Test.YtiialbnfgichhaaJobO
import Derived.Test.YtiialbnfgichhaaIntW
import Derived.Deep.RegionWith
import Derived.Deep.RegionLaw
import Derived.Deep.RegionHeldLaw
namespace Go.Proofs.Ytiialbnfgichhaa
open Go.RowKit
set_option linter.unusedVariables false
theorem cellB0 {B : Nat} {w w' : World} {p : Addr} {v : Value} (h : w.cell? p = some v) (hb : Below B w w') (hB : w.heap.size ≤ B := by exact Nat.le_refl _) : w'.cell? p = some v := (hb.cell (Nat.lt_of_lt_of_le (World.block_lt_of_cell? _ _ h) hB)).trans h
theorem run_make_k {P : Program} (t e : TypeId) (z : Value) (k bytes : Nat) (ht : P.underlying t = some (.slice e)) (hinfo : (P.info? e).map (fun i => (i.zero, i.size, i.bytes)) = some (some z, k, bytes))
    (n : Nat) (hbytes : bytes * n ≤ 281474976710656) (h63 : n ≤ 9223372036854775807) (w : World) :
    (Instr.makeSlice t (.int .i64 (n : Int)) (.int .i64 (n : Int))).run P w = .ok (.slice (some ⟨w.heap.size, 0, none⟩) n n) (w.alloc (.cells (madeCells z.cells (n * k)) e)) := by
  obtain ⟨i, hi, hzz⟩ := Option.map_eq_some_iff.1 hinfo
  simp only [Prod.mk.injEq] at hzz
  obtain ⟨hz, hs, hb⟩ := hzz
  have hb' : (i.bytes : Int) * (n : Int) ≤ 281474976710656 := by
    have h : ((i.bytes * n : Nat) : Int) ≤ 281474976710656 := by rw [hb]; omega
    rwa [Int.natCast_mul] at h
  have hr := run_make (P := P) w t e i z ht hi hz .i64 .i64 n n (by omega) (Int.le_refl _) hb' (by omega)
  simp only [Int.toNat_natCast, hs] at hr
  exact hr
theorem rowIs_zeros (w : World) (z : Array Value) (m : Nat) (t : TypeId) (hz : 0 < z.size) (hz0 : ∀ i, i < z.size → z[i]! = .int .i64 0) : (w.alloc (.cells (madeCells z m) t)).rowIs w.heap.size t m (fun _ => .int .i64 0) :=
  ⟨madeCells z m, heap_alloc_new _ _, size_madeCells _ _, fun i hi => by
    have := hz0 (i % z.size) (Nat.mod_lt _ hz)
    simp [madeCells, hi, this]⟩
theorem mulW (i k : Nat) (h : i * k ≤ 9223372036854775807) : wrap64 ((i : Int) * (k : Int)) = ((i * k : Nat) : Int) := by
  rw [IntWalk.wrap64_in _ (by constructor <;> omega)]; omega

/-- One job in a block of type t. -/
def JbB (t : TypeId) (w : World) (g : Nat) (j : Jb) : Prop := w.heap[g]? = some (.cells #[.int .i64 j.fr, .int .i64 j.to, .int .i64 j.sp, .int .i64 j.st] t (0, 0))
theorem JbB.cell0 {t : TypeId} {w : World} {g : Nat} {j : Jb} (h : JbB t w g j) : w.cell? ⟨g, 0, none⟩ = some (.int .i64 j.fr) := by unfold World.cell?; unfold JbB at h; simp [h]
theorem JbB.cell1 {t : TypeId} {w : World} {g : Nat} {j : Jb} (h : JbB t w g j) : w.cell? ⟨g, 1, none⟩ = some (.int .i64 j.to) := by unfold World.cell?; unfold JbB at h; simp [h]
theorem JbB.cell2 {t : TypeId} {w : World} {g : Nat} {j : Jb} (h : JbB t w g j) : w.cell? ⟨g, 2, none⟩ = some (.int .i64 j.sp) := by unfold World.cell?; unfold JbB at h; simp [h]
theorem JbB.cell3 {t : TypeId} {w : World} {g : Nat} {j : Jb} (h : JbB t w g j) : w.cell? ⟨g, 3, none⟩ = some (.int .i64 j.st) := by unfold World.cell?; unfold JbB at h; simp [h]
theorem JbB.frozen {t : TypeId} {w : World} {g : Nat} {j : Jb} (h : JbB t w g j) (i : Nat) : w.frozen? ⟨g, i, none⟩ = false := by unfold World.frozen?; unfold JbB at h; simp [h]
theorem JbB.below {t : TypeId} {w w' : World} {g : Nat} {j : Jb} (h : JbB t w g j) (hb : Below w.heap.size w w') : JbB t w' g j := (hb.block g (Array.getElem?_eq_some_iff.1 h).1).trans h
theorem JbB.lt {t : TypeId} {w : World} {g : Nat} {j : Jb} (h : JbB t w g j) : g < w.heap.size := (Array.getElem?_eq_some_iff.1 h).1
theorem jbB_new (t : TypeId) (w : World) (j : Jb) : JbB t (w.alloc (.cells #[.int .i64 j.fr, .int .i64 j.to, .int .i64 j.sp, .int .i64 j.st] t)) w.heap.size j := heap_alloc_new _ _
theorem jbB_sizeL : (Try.prog.info? 23).map (·.size) = some 4 := by kernel_rfl
theorem load_jbBL {w : World} {g : Nat} {j : Jb} (h : JbB 23 w g j) : (loadVar 23 ⟨g, 0, none⟩).run Try.prog w = .ok (.agg #[.int .i64 j.fr, .int .i64 j.to, .int .i64 j.sp, .int .i64 j.st]) w :=
  run_loadVar_row w g 23 23 #[.int .i64 j.fr, .int .i64 j.to, .int .i64 j.sp, .int .i64 j.st] (0, 0) _ h Try.underlying23 rfl jbB_sizeL
theorem jbB_sizeI : (Try.prog.info? 26).map (·.size) = some 4 := by kernel_rfl
theorem load_jbBI {w : World} {g : Nat} {j : Jb} (h : JbB 26 w g j) : (loadVar 26 ⟨g, 0, none⟩).run Try.prog w = .ok (.agg #[.int .i64 j.fr, .int .i64 j.to, .int .i64 j.sp, .int .i64 j.st]) w :=
  run_loadVar_row w g 26 26 #[.int .i64 j.fr, .int .i64 j.to, .int .i64 j.sp, .int .i64 j.st] (0, 0) _ h Try.underlying26 rfl jbB_sizeI
theorem res_jbB {fn : Func} {p : Tmp} (h : fn.results = #[.cell p 26]) (tmps : Array Value) {w : World} {g : Nat} {j : Jb} (hp : tmps.getD p undef = .pointer (some ⟨g, 0, none⟩)) (hb : JbB 26 w g j) : (results fn tmps).run Try.prog w = .ok (.agg #[.int .i64 j.fr, .int .i64 j.to, .int .i64 j.sp, .int .i64 j.st]) w := by
  have hp' : tmps[p]?.getD undef = .pointer (some ⟨g, 0, none⟩) := by simpa using hp
  simp [results, h, hp', asAddr, load_jbBI hb]
set_option maxHeartbeats 2000000 in
theorem toJob_any (j : Jb) (w : World) :
    Calls Try.prog 17 #[.agg #[.int .i64 j.fr, .int .i64 j.to, .int .i64 j.sp, .int .i64 j.st]] w fun e w' => e = .returned (.agg #[.int .i64 j.fr, .int .i64 j.to, .int .i64 j.sp, .int .i64 j.st]) ∧ Below w.heap.size w w' := by
  have hT := jbB_new 23 w j
  have c0 := hT.cell0
  have c1 := hT.cell1
  have c2 := hT.cell2
  have c3 := hT.cell3
  clear hT
  go_enter Try.func17, Try.ntmps17
  go_wp2
  have e1 : (w.alloc (.cells #[.int .i64 j.fr, .int .i64 j.to, .int .i64 j.sp, .int .i64 j.st] 23)).heap.size = w.heap.size + 1 := by simp
  have hR := jbB_new 26 (w.alloc (.cells #[.int .i64 j.fr, .int .i64 j.to, .int .i64 j.sp, .int .i64 j.st] 23)) j
  rw [e1] at hR
  refine bodyPost_ret (res_jbB rfl _ rfl (hR.below (below_alloc _ _))) rfl ?_
  exact ⟨rfl, ((below_alloc w _).alloc (by simp) _).alloc (by simp; omega) _⟩
theorem infoJ : (Try.prog.info? 26).map (fun i => (i.zero, i.size, i.bytes)) = some (some (.agg #[.int .i64 0, .int .i64 0, .int .i64 0, .int .i64 0]), 4, 32) := by kernel_rfl
set_option maxHeartbeats 4000000 in
theorem toJobS_any (a : Option Addr) (b o c : Nat) (l : List Jb) (w : World) (hs : SrcJ w a b o l) (hl : l.length ≤ 1048576) :
    Calls Try.prog 23 #[.slice a l.length c] w fun e w' => e = .returned (.slice (some ⟨w.heap.size, 0, none⟩) l.length l.length) ∧ SrcV w' (some ⟨w.heap.size, 0, none⟩) w.heap.size (jbs l) ∧ Open w' w.heap.size (jbs l).length ∧ w.heap.size < w'.heap.size ∧ Below w.heap.size w w' := by
  have HC := Lib.hid hs.2
  have HX := Lib.hid hs.1
  clear hs
  have hmk := run_make_k (P := Try.prog) 37 26 (.agg #[.int .i64 0, .int .i64 0, .int .i64 0, .int .i64 0]) 4 32 Try.underlying37 infoJ l.length (by omega) (by omega)
  have HR : Hid ((w.alloc (.cells (madeCells (Value.cells (.agg #[.int .i64 0, .int .i64 0, .int .i64 0, .int .i64 0])) (l.length * 4)) 26)).rowIs w.heap.size 26 (l.length * 4) (fun _ => .int .i64 0)) := Lib.hid (rowIs_zeros w _ (l.length * 4) 26 (by simp [Value.cells]) (by
    intro i hi
    have hi2 : i < 4 := by simpa [Value.cells] using hi
    rcases (show i = 0 ∨ i = 1 ∨ i = 2 ∨ i = 3 by omega) with e | e | e | e <;> subst e <;> rfl))
  go_enter Try.func23, Try.ntmps23
  go_wp2
  go_loopw [4] (fun v wr => ∃ k : Nat, v = .int .i64 k ∧ k ≤ l.length ∧ Hid (wr.rowIs w.heap.size 26 (l.length * 4) (fun j => if j < k * 4 then (jbs l).getD j (.int .i64 0) else .int .i64 0)) ∧ Hid (Below w.heap.size w wr)) (fun v _ => l.length - (intOf v).toNat)
  case atStart => exact ⟨0, rfl, Nat.zero_le _, HR.out.congr (fun i _ => by simp), (Below.refl _ _).alloc (Nat.le_refl _) _⟩
  case round =>
    obtain ⟨k, rfl, hk, HW, HB⟩ := hrel
    by_cases hlt : k < l.length
    · obtain rfl := HX.out (by omega)
      have hc0 := HC.out k _ (List.getElem?_eq_getElem hlt)
      have HV := Lib.hid (jbs_at hlt)
      generalize l[k] = x at hc0 HV
      have d0 : wr.cell? ⟨b, o + k * 4, none⟩ = some (.int .i64 x.fr) := cellB0 hc0.1 HB.out
      have d1 : wr.cell? ⟨b, o + k * 4 + 1, none⟩ = some (.int .i64 x.to) := cellB0 hc0.2.1 HB.out
      have d2 : wr.cell? ⟨b, o + k * 4 + 2, none⟩ = some (.int .i64 x.sp) := cellB0 hc0.2.2.1 HB.out
      have d3 : wr.cell? ⟨b, o + k * 4 + 3, none⟩ = some (.int .i64 x.st) := cellB0 hc0.2.2.2 HB.out
      clear hc0
      have HT := Lib.hid fun W => toJob_any x W
      generalize hx0 : x.fr = x0 at d0 HT HV
      generalize hx1 : x.to = x1 at d1 HT HV
      generalize hx2 : x.sp = x2 at d2 HT HV
      generalize hx3 : x.st = x3 at d3 HT HV
      clear hx0 hx1 hx2 hx3
      have i0 : (0 : Int) ≤ (k : Int) := by omega
      have i1 : (k : Int) < (l.length : Int) := by omega
      go_wp2_with fail
      refine (HT.out _).mono ?_
      rintro e w2 ⟨rfl, hb⟩
      have HB2 := Lib.hid (HB.out.trans (hb.mono HB.out.size))
      have HW2 := Lib.hid (HW.out.of_block (hb.block _ HW.out.lt))
      clear hb d0 d1 d2 d3
      have g0 := HW2.out.cell (i := k * 4) (by omega)
      have f0 := HW2.out.frozen (k * 4)
      have g1 := HW2.out.cell (i := k * 4 + 1) (by omega)
      have f1 := HW2.out.frozen (k * 4 + 1)
      have g2 := HW2.out.cell (i := k * 4 + 2) (by omega)
      have f2 := HW2.out.frozen (k * 4 + 2)
      have g3 := HW2.out.cell (i := k * 4 + 3) (by omega)
      have f3 := HW2.out.frozen (k * 4 + 3)
      have HN : Hid (((((w2.setCell ⟨w.heap.size, k * 4, none⟩ (.int .i64 x0)).setCell ⟨w.heap.size, k * 4 + 1, none⟩ (.int .i64 x1)).setCell ⟨w.heap.size, k * 4 + 2, none⟩ (.int .i64 x2)).setCell ⟨w.heap.size, k * 4 + 3, none⟩ (.int .i64 x3)).rowIs w.heap.size 26 (l.length * 4) (fun j => if j < (k + 1) * 4 then (jbs l).getD j (.int .i64 0) else .int .i64 0)) := Lib.hid (((((HW2.out.set (k * 4) (.int .i64 x0)).set (k * 4 + 1) (.int .i64 x1)).set (k * 4 + 2) (.int .i64 x2)).set (k * 4 + 3) (.int .i64 x3)).congr (fun i hi => by
        by_cases e3 : i = k * 4 + 3
        · show _ = _; subst e3; rw [if_pos rfl]; rw [if_pos (by omega), List.getD_eq_getElem?_getD, HV.out.2.2.2]; rfl
        by_cases e2 : i = k * 4 + 2
        · show _ = _; subst e2; rw [if_neg (by omega), if_pos rfl]; rw [if_pos (by omega), List.getD_eq_getElem?_getD, HV.out.2.2.1]; rfl
        by_cases e1 : i = k * 4 + 1
        · show _ = _; subst e1; rw [if_neg (by omega), if_neg (by omega), if_pos rfl]; rw [if_pos (by omega), List.getD_eq_getElem?_getD, HV.out.2.1]; rfl
        by_cases e0 : i = k * 4
        · show _ = _; subst e0; rw [if_neg (by omega), if_neg (by omega), if_neg (by omega), if_pos rfl]; rw [if_pos (by omega), List.getD_eq_getElem?_getD, HV.out.1]; rfl
        show _ = _
        rw [if_neg e3, if_neg e2, if_neg e1, if_neg e0]
        by_cases e9 : i < k * 4
        · rw [if_pos e9, if_pos (by omega)]
        · rw [if_neg e9, if_neg (by omega)]))
      have HB3 := Lib.hid ((((HB2.out.setCell (p := ⟨w.heap.size, k * 4, none⟩) (Nat.le_refl _) (.int .i64 x0)).setCell (p := ⟨w.heap.size, k * 4 + 1, none⟩) (Nat.le_refl _) (.int .i64 x1)).setCell (p := ⟨w.heap.size, k * 4 + 2, none⟩) (Nat.le_refl _) (.int .i64 x2)).setCell (p := ⟨w.heap.size, k * 4 + 3, none⟩) (Nat.le_refl _) (.int .i64 x3))
      go_wp2
      go_roundw
      case rel => exact ⟨k + 1, by go_num, by omega, HN, HB3⟩
      case measure => simp [intOf]; omega
    · obtain rfl : k = l.length := by omega
      go_wp2
      go_ret
      refine ⟨rfl, ⟨fun _ => rfl, fun j v hv => ?_⟩, fun j _ => HW.out.frozen j, HW.out.lt, HB.out⟩
      have hj : j < l.length * 4 := by have := (List.getElem?_eq_some_iff.1 hv).1; rw [jbs_len] at this; omega
      have := HW.out.cell hj
      rw [if_pos hj, List.getD_eq_getElem?_getD, hv] at this
      exact this
set_option maxHeartbeats 2000000 in
theorem eqJob_yes (j : Jb) (w : World) :
    Calls Try.prog 75 #[.agg #[.int .i64 j.fr, .int .i64 j.to, .int .i64 j.sp, .int .i64 j.st], .agg #[.int .i64 j.fr, .int .i64 j.to, .int .i64 j.sp, .int .i64 j.st]] w fun e w' => e = .returned (.bool true) ∧ Below w.heap.size w w' := by
  have hT1 := (jbB_new 26 w j).below (below_alloc _ (.cells #[.int .i64 j.fr, .int .i64 j.to, .int .i64 j.sp, .int .i64 j.st] 26))
  have hT2 := jbB_new 26 (w.alloc (.cells #[.int .i64 j.fr, .int .i64 j.to, .int .i64 j.sp, .int .i64 j.st] 26)) j
  have e0 : (w.alloc (.cells #[.int .i64 j.fr, .int .i64 j.to, .int .i64 j.sp, .int .i64 j.st] 26)).heap.size = w.heap.size + 1 := by simp
  rw [e0] at hT2
  have c0 := hT1.cell0
  have d0 := hT2.cell0
  have c1 := hT1.cell1
  have d1 := hT2.cell1
  have c2 := hT1.cell2
  have d2 := hT2.cell2
  have c3 := hT1.cell3
  have d3 := hT2.cell3
  have HB := Lib.hid ((below_alloc w (.cells #[.int .i64 j.fr, .int .i64 j.to, .int .i64 j.sp, .int .i64 j.st] 26)).alloc (by simp) (.cells #[.int .i64 j.fr, .int .i64 j.to, .int .i64 j.sp, .int .i64 j.st] 26))
  clear hT1 hT2 e0
  go_enter Try.func75, Try.ntmps75
  go_wp2
  go_ret
  exact ⟨rfl, HB.out⟩
set_option maxHeartbeats 8000000 in
set_option maxRecDepth 8000 in
theorem eqJobS_yes (a1 a2 : Option Addr) (g1 g2 c1 c2 : Nat) (l : List Jb) (w : World) (hl : l.length ≤ 1048576) (h1 : SrcV w a1 g1 (jbs l)) (h2 : SrcV w a2 g2 (jbs l)) :
    Calls Try.prog 27 #[.slice a1 l.length c1, .slice a2 l.length c2] w fun e w' => e = .returned (.bool true) ∧ Below w.heap.size w w' := by
  have H1 := Lib.hid fun W hb => h1.below (w' := W) hb
  have H2 := Lib.hid fun W hb => h2.below (w' := W) hb
  clear h1 h2
  go_enter Try.func27, Try.ntmps27
  go_wp2
  go_loopw [5] (fun v wr => ∃ i : Nat, v = .int .i64 i ∧ i ≤ l.length ∧ Hid (Below w.heap.size w wr)) (fun v _ => l.length - (intOf v).toNat)
  case atStart => exact ⟨0, rfl, Nat.zero_le _, Lib.hid (Below.refl _ _)⟩
  case round =>
    obtain ⟨i, rfl, hi, HB⟩ := hrel
    by_cases hlt : i < l.length
    · have hp0 : 0 < (jbs l).length := by rw [jbs_len]; omega
      obtain rfl := (H1.out w (Below.refl _ _)).1 hp0
      obtain rfl := (H2.out w (Below.refl _ _)).1 hp0
      have d0 := (H1.out wr HB.out).2 _ _ (jbs_at hlt).1
      have f0 := (H2.out wr HB.out).2 _ _ (jbs_at hlt).1
      have d1 := (H1.out wr HB.out).2 _ _ (jbs_at hlt).2.1
      have f1 := (H2.out wr HB.out).2 _ _ (jbs_at hlt).2.1
      have d2 := (H1.out wr HB.out).2 _ _ (jbs_at hlt).2.2.1
      have f2 := (H2.out wr HB.out).2 _ _ (jbs_at hlt).2.2.1
      have d3 := (H1.out wr HB.out).2 _ _ (jbs_at hlt).2.2.2
      have f3 := (H2.out wr HB.out).2 _ _ (jbs_at hlt).2.2.2
      have HE := Lib.hid fun W => eqJob_yes l[i] W
      generalize l[i].fr = x0 at d0 f0 HE
      generalize l[i].to = x1 at d1 f1 HE
      generalize l[i].sp = x2 at d2 f2 HE
      generalize l[i].st = x3 at d3 f3 HE
      have i0 : (0 : Int) ≤ (i : Int) := by omega
      have i1 : (i : Int) < (l.length : Int) := by omega
      go_wp2
      go_region_with (go_at_call 75; refine (HE.out _).mono ?_; rintro e w5 ⟨rfl, hb5⟩; have HB5 := Lib.hid (HB.out.drew.trans (hb5.mono HB.out.size)); clear hb5)
      all_goals (
        go_wp2
        go_roundw
        case rel => exact ⟨i + 1, by go_num, by omega, HB5⟩
        case measure => simp [intOf]; omega)
    · go_wp2
      go_ret
      exact ⟨rfl, HB.out⟩
set_option maxHeartbeats 4000000 in
theorem markJobS_any (a : Option Addr) (g : Nat) (vs : List Value) (n c : Nat) (hvs : vs.length = 4 * n) (k0 : Nat) (w : World) (ho : Own w a g vs) (h2 : n ≤ 1048576) (hk0 : k0 ≤ 8388608) :
    Calls Try.prog 29 #[.slice a n c, .int .i64 k0] w fun e w' => ∃ m : Nat, m ≤ k0 + 4 * n ∧ e = .returned (.int .i64 (m : Int)) ∧ w.grownBy w' (some g) := by
  have HA := Lib.hid ho.src.1
  have HO : Hid (MarkedN w w g vs.length) := Lib.hid ⟨⟨rfl, rfl, rfl, Nat.le_refl _, fun _ _ _ => rfl⟩, srcV_cells ho.src ho.opn⟩
  clear ho
  rw [hvs] at HA HO
  clear hvs
  go_enter Try.func29, Try.ntmps29
  go_wp2
  go_loopw [1, 5] (fun q v wr => ∃ (i m : Nat), v = .int .i64 i ∧ i ≤ n ∧ q = .int .i64 (m : Int) ∧ m ≤ k0 + 4 * i ∧ Hid (MarkedN w wr g (4 * n))) (fun _ v _ => n - (intOf v).toNat)
  case atStart => exact ⟨0, k0, rfl, Nat.zero_le _, rfl, Nat.le_refl _, HO⟩
  case round =>
    obtain ⟨i, m, rfl, hi, rfl, hm, HM⟩ := hrel
    by_cases hlt : i < n
    · obtain rfl := HA.out (by omega)
      have HM0 := Lib.hid (HM.out.step (i := i * 4) (u := .int .i64 ((m : Int))) (by omega))
      have HM1 := Lib.hid (HM0.out.step (i := i * 4 + 1) (u := .int .i64 ((m : Int) + 1)) (by omega))
      have HM2 := Lib.hid (HM1.out.step (i := i * 4 + 2) (u := .int .i64 ((m : Int) + 1 + 1)) (by omega))
      have HM3 := Lib.hid (HM2.out.step (i := i * 4 + 3) (u := .int .i64 ((m : Int) + 1 + 1 + 1)) (by omega))
      obtain ⟨⟨v0, hv0⟩, hf0⟩ := HM.out.open_ (i * 4) (by omega)
      obtain ⟨⟨v1, hv1⟩, hf1⟩ := HM0.out.open_ (i * 4 + 1) (by omega)
      obtain ⟨⟨v2, hv2⟩, hf2⟩ := HM1.out.open_ (i * 4 + 2) (by omega)
      obtain ⟨⟨v3, hv3⟩, hf3⟩ := HM2.out.open_ (i * 4 + 3) (by omega)
      have i0 : (0 : Int) ≤ (i : Int) := by omega
      have i1 : (i : Int) < (n : Int) := by omega
      go_wp2
      go_roundw
      case rel => exact ⟨i + 1, m + 4, by go_num, by omega, by go_num, by omega, HM3⟩
      case measure => simp [intOf]; omega
    · obtain rfl : i = n := by omega
      go_wp2
      go_ret
      exact ⟨m, hm, rfl, HM.out.grown⟩
/-- One hop in a block of type t. -/
def HpB (t : TypeId) (w : World) (g : Nat) (j : Hp) : Prop := w.heap[g]? = some (.cells #[.int .i64 j.jb, .int .i64 j.fr, .int .i64 j.bg] t (0, 0))
theorem HpB.cell0 {t : TypeId} {w : World} {g : Nat} {j : Hp} (h : HpB t w g j) : w.cell? ⟨g, 0, none⟩ = some (.int .i64 j.jb) := by unfold World.cell?; unfold HpB at h; simp [h]
theorem HpB.cell1 {t : TypeId} {w : World} {g : Nat} {j : Hp} (h : HpB t w g j) : w.cell? ⟨g, 1, none⟩ = some (.int .i64 j.fr) := by unfold World.cell?; unfold HpB at h; simp [h]
theorem HpB.cell2 {t : TypeId} {w : World} {g : Nat} {j : Hp} (h : HpB t w g j) : w.cell? ⟨g, 2, none⟩ = some (.int .i64 j.bg) := by unfold World.cell?; unfold HpB at h; simp [h]
theorem HpB.frozen {t : TypeId} {w : World} {g : Nat} {j : Hp} (h : HpB t w g j) (i : Nat) : w.frozen? ⟨g, i, none⟩ = false := by unfold World.frozen?; unfold HpB at h; simp [h]
theorem HpB.below {t : TypeId} {w w' : World} {g : Nat} {j : Hp} (h : HpB t w g j) (hb : Below w.heap.size w w') : HpB t w' g j := (hb.block g (Array.getElem?_eq_some_iff.1 h).1).trans h
theorem HpB.lt {t : TypeId} {w : World} {g : Nat} {j : Hp} (h : HpB t w g j) : g < w.heap.size := (Array.getElem?_eq_some_iff.1 h).1
theorem hpB_new (t : TypeId) (w : World) (j : Hp) : HpB t (w.alloc (.cells #[.int .i64 j.jb, .int .i64 j.fr, .int .i64 j.bg] t)) w.heap.size j := heap_alloc_new _ _
theorem hpB_sizeL : (Try.prog.info? 95).map (·.size) = some 3 := by kernel_rfl
theorem load_hpBL {w : World} {g : Nat} {j : Hp} (h : HpB 95 w g j) : (loadVar 95 ⟨g, 0, none⟩).run Try.prog w = .ok (.agg #[.int .i64 j.jb, .int .i64 j.fr, .int .i64 j.bg]) w :=
  run_loadVar_row w g 95 95 #[.int .i64 j.jb, .int .i64 j.fr, .int .i64 j.bg] (0, 0) _ h Try.underlying95 rfl hpB_sizeL
theorem hpB_sizeI : (Try.prog.info? 89).map (·.size) = some 3 := by kernel_rfl
theorem load_hpBI {w : World} {g : Nat} {j : Hp} (h : HpB 89 w g j) : (loadVar 89 ⟨g, 0, none⟩).run Try.prog w = .ok (.agg #[.int .i64 j.jb, .int .i64 j.fr, .int .i64 j.bg]) w :=
  run_loadVar_row w g 89 89 #[.int .i64 j.jb, .int .i64 j.fr, .int .i64 j.bg] (0, 0) _ h Try.underlying89 rfl hpB_sizeI
theorem res_hpB {fn : Func} {p : Tmp} (h : fn.results = #[.cell p 89]) (tmps : Array Value) {w : World} {g : Nat} {j : Hp} (hp : tmps.getD p undef = .pointer (some ⟨g, 0, none⟩)) (hb : HpB 89 w g j) : (results fn tmps).run Try.prog w = .ok (.agg #[.int .i64 j.jb, .int .i64 j.fr, .int .i64 j.bg]) w := by
  have hp' : tmps[p]?.getD undef = .pointer (some ⟨g, 0, none⟩) := by simpa using hp
  simp [results, h, hp', asAddr, load_hpBI hb]
set_option maxHeartbeats 2000000 in
theorem toHop_any (j : Hp) (w : World) :
    Calls Try.prog 77 #[.agg #[.int .i64 j.jb, .int .i64 j.fr, .int .i64 j.bg]] w fun e w' => e = .returned (.agg #[.int .i64 j.jb, .int .i64 j.fr, .int .i64 j.bg]) ∧ Below w.heap.size w w' := by
  have hT := hpB_new 95 w j
  have c0 := hT.cell0
  have c1 := hT.cell1
  have c2 := hT.cell2
  clear hT
  go_enter Try.func77, Try.ntmps77
  go_wp2
  have e1 : (w.alloc (.cells #[.int .i64 j.jb, .int .i64 j.fr, .int .i64 j.bg] 95)).heap.size = w.heap.size + 1 := by simp
  have hR := hpB_new 89 (w.alloc (.cells #[.int .i64 j.jb, .int .i64 j.fr, .int .i64 j.bg] 95)) j
  rw [e1] at hR
  refine bodyPost_ret (res_hpB rfl _ rfl (hR.below (below_alloc _ _))) rfl ?_
  exact ⟨rfl, ((below_alloc w _).alloc (by simp) _).alloc (by simp; omega) _⟩
theorem infoH : (Try.prog.info? 89).map (fun i => (i.zero, i.size, i.bytes)) = some (some (.agg #[.int .i64 0, .int .i64 0, .int .i64 0]), 3, 24) := by kernel_rfl
set_option maxHeartbeats 4000000 in
theorem toHopS_any (a : Option Addr) (b o c : Nat) (l : List Hp) (w : World) (hs : SrcH w a b o l) (hl : l.length ≤ 1048576) :
    Calls Try.prog 35 #[.slice a l.length c] w fun e w' => e = .returned (.slice (some ⟨w.heap.size, 0, none⟩) l.length l.length) ∧ SrcV w' (some ⟨w.heap.size, 0, none⟩) w.heap.size (hps l) ∧ Open w' w.heap.size (hps l).length ∧ w.heap.size < w'.heap.size ∧ Below w.heap.size w w' := by
  have HC := Lib.hid hs.2
  have HX := Lib.hid hs.1
  clear hs
  have hmk := run_make_k (P := Try.prog) 34 89 (.agg #[.int .i64 0, .int .i64 0, .int .i64 0]) 3 24 Try.underlying34 infoH l.length (by omega) (by omega)
  have HR : Hid ((w.alloc (.cells (madeCells (Value.cells (.agg #[.int .i64 0, .int .i64 0, .int .i64 0])) (l.length * 3)) 89)).rowIs w.heap.size 89 (l.length * 3) (fun _ => .int .i64 0)) := Lib.hid (rowIs_zeros w _ (l.length * 3) 89 (by simp [Value.cells]) (by
    intro i hi
    have hi2 : i < 3 := by simpa [Value.cells] using hi
    rcases (show i = 0 ∨ i = 1 ∨ i = 2 by omega) with e | e | e <;> subst e <;> rfl))
  go_enter Try.func35, Try.ntmps35
  go_wp2
  go_loopw [4] (fun v wr => ∃ k : Nat, v = .int .i64 k ∧ k ≤ l.length ∧ Hid (wr.rowIs w.heap.size 89 (l.length * 3) (fun j => if j < k * 3 then (hps l).getD j (.int .i64 0) else .int .i64 0)) ∧ Hid (Below w.heap.size w wr)) (fun v _ => l.length - (intOf v).toNat)
  case atStart => exact ⟨0, rfl, Nat.zero_le _, HR.out.congr (fun i _ => by simp), (Below.refl _ _).alloc (Nat.le_refl _) _⟩
  case round =>
    obtain ⟨k, rfl, hk, HW, HB⟩ := hrel
    by_cases hlt : k < l.length
    · obtain rfl := HX.out (by omega)
      have hc0 := HC.out k _ (List.getElem?_eq_getElem hlt)
      have HV := Lib.hid (hps_at hlt)
      generalize l[k] = x at hc0 HV
      have d0 : wr.cell? ⟨b, o + k * 3, none⟩ = some (.int .i64 x.jb) := cellB0 hc0.1 HB.out
      have d1 : wr.cell? ⟨b, o + k * 3 + 1, none⟩ = some (.int .i64 x.fr) := cellB0 hc0.2.1 HB.out
      have d2 : wr.cell? ⟨b, o + k * 3 + 2, none⟩ = some (.int .i64 x.bg) := cellB0 hc0.2.2 HB.out
      clear hc0
      have HT := Lib.hid fun W => toHop_any x W
      generalize hx0 : x.jb = x0 at d0 HT HV
      generalize hx1 : x.fr = x1 at d1 HT HV
      generalize hx2 : x.bg = x2 at d2 HT HV
      clear hx0 hx1 hx2
      have i0 : (0 : Int) ≤ (k : Int) := by omega
      have i1 : (k : Int) < (l.length : Int) := by omega
      go_wp2_with fail
      refine (HT.out _).mono ?_
      rintro e w2 ⟨rfl, hb⟩
      have HB2 := Lib.hid (HB.out.trans (hb.mono HB.out.size))
      have HW2 := Lib.hid (HW.out.of_block (hb.block _ HW.out.lt))
      clear hb d0 d1 d2
      have g0 := HW2.out.cell (i := k * 3) (by omega)
      have f0 := HW2.out.frozen (k * 3)
      have g1 := HW2.out.cell (i := k * 3 + 1) (by omega)
      have f1 := HW2.out.frozen (k * 3 + 1)
      have g2 := HW2.out.cell (i := k * 3 + 2) (by omega)
      have f2 := HW2.out.frozen (k * 3 + 2)
      have HN : Hid ((((w2.setCell ⟨w.heap.size, k * 3, none⟩ (.int .i64 x0)).setCell ⟨w.heap.size, k * 3 + 1, none⟩ (.int .i64 x1)).setCell ⟨w.heap.size, k * 3 + 2, none⟩ (.int .i64 x2)).rowIs w.heap.size 89 (l.length * 3) (fun j => if j < (k + 1) * 3 then (hps l).getD j (.int .i64 0) else .int .i64 0)) := Lib.hid ((((HW2.out.set (k * 3) (.int .i64 x0)).set (k * 3 + 1) (.int .i64 x1)).set (k * 3 + 2) (.int .i64 x2)).congr (fun i hi => by
        by_cases e2 : i = k * 3 + 2
        · show _ = _; subst e2; rw [if_pos rfl]; rw [if_pos (by omega), List.getD_eq_getElem?_getD, HV.out.2.2]; rfl
        by_cases e1 : i = k * 3 + 1
        · show _ = _; subst e1; rw [if_neg (by omega), if_pos rfl]; rw [if_pos (by omega), List.getD_eq_getElem?_getD, HV.out.2.1]; rfl
        by_cases e0 : i = k * 3
        · show _ = _; subst e0; rw [if_neg (by omega), if_neg (by omega), if_pos rfl]; rw [if_pos (by omega), List.getD_eq_getElem?_getD, HV.out.1]; rfl
        show _ = _
        rw [if_neg e2, if_neg e1, if_neg e0]
        by_cases e9 : i < k * 3
        · rw [if_pos e9, if_pos (by omega)]
        · rw [if_neg e9, if_neg (by omega)]))
      have HB3 := Lib.hid (((HB2.out.setCell (p := ⟨w.heap.size, k * 3, none⟩) (Nat.le_refl _) (.int .i64 x0)).setCell (p := ⟨w.heap.size, k * 3 + 1, none⟩) (Nat.le_refl _) (.int .i64 x1)).setCell (p := ⟨w.heap.size, k * 3 + 2, none⟩) (Nat.le_refl _) (.int .i64 x2))
      go_wp2
      go_roundw
      case rel => exact ⟨k + 1, by go_num, by omega, HN, HB3⟩
      case measure => simp [intOf]; omega
    · obtain rfl : k = l.length := by omega
      go_wp2
      go_ret
      refine ⟨rfl, ⟨fun _ => rfl, fun j v hv => ?_⟩, fun j _ => HW.out.frozen j, HW.out.lt, HB.out⟩
      have hj : j < l.length * 3 := by have := (List.getElem?_eq_some_iff.1 hv).1; rw [hps_len] at this; omega
      have := HW.out.cell hj
      rw [if_pos hj, List.getD_eq_getElem?_getD, hv] at this
      exact this
set_option maxHeartbeats 2000000 in
theorem eqHop_yes (j : Hp) (w : World) :
    Calls Try.prog 74 #[.agg #[.int .i64 j.jb, .int .i64 j.fr, .int .i64 j.bg], .agg #[.int .i64 j.jb, .int .i64 j.fr, .int .i64 j.bg]] w fun e w' => e = .returned (.bool true) ∧ Below w.heap.size w w' := by
  have hT1 := (hpB_new 89 w j).below (below_alloc _ (.cells #[.int .i64 j.jb, .int .i64 j.fr, .int .i64 j.bg] 89))
  have hT2 := hpB_new 89 (w.alloc (.cells #[.int .i64 j.jb, .int .i64 j.fr, .int .i64 j.bg] 89)) j
  have e0 : (w.alloc (.cells #[.int .i64 j.jb, .int .i64 j.fr, .int .i64 j.bg] 89)).heap.size = w.heap.size + 1 := by simp
  rw [e0] at hT2
  have c0 := hT1.cell0
  have d0 := hT2.cell0
  have c1 := hT1.cell1
  have d1 := hT2.cell1
  have c2 := hT1.cell2
  have d2 := hT2.cell2
  have HB := Lib.hid ((below_alloc w (.cells #[.int .i64 j.jb, .int .i64 j.fr, .int .i64 j.bg] 89)).alloc (by simp) (.cells #[.int .i64 j.jb, .int .i64 j.fr, .int .i64 j.bg] 89))
  clear hT1 hT2 e0
  go_enter Try.func74, Try.ntmps74
  go_wp2
  go_ret
  exact ⟨rfl, HB.out⟩
set_option maxHeartbeats 8000000 in
set_option maxRecDepth 8000 in
theorem eqHopS_yes (a1 a2 : Option Addr) (g1 g2 c1 c2 : Nat) (l : List Hp) (w : World) (hl : l.length ≤ 1048576) (h1 : SrcV w a1 g1 (hps l)) (h2 : SrcV w a2 g2 (hps l)) :
    Calls Try.prog 26 #[.slice a1 l.length c1, .slice a2 l.length c2] w fun e w' => e = .returned (.bool true) ∧ Below w.heap.size w w' := by
  have H1 := Lib.hid fun W hb => h1.below (w' := W) hb
  have H2 := Lib.hid fun W hb => h2.below (w' := W) hb
  clear h1 h2
  go_enter Try.func26, Try.ntmps26
  go_wp2
  go_loopw [5] (fun v wr => ∃ i : Nat, v = .int .i64 i ∧ i ≤ l.length ∧ Hid (Below w.heap.size w wr)) (fun v _ => l.length - (intOf v).toNat)
  case atStart => exact ⟨0, rfl, Nat.zero_le _, Lib.hid (Below.refl _ _)⟩
  case round =>
    obtain ⟨i, rfl, hi, HB⟩ := hrel
    by_cases hlt : i < l.length
    · have hp0 : 0 < (hps l).length := by rw [hps_len]; omega
      obtain rfl := (H1.out w (Below.refl _ _)).1 hp0
      obtain rfl := (H2.out w (Below.refl _ _)).1 hp0
      have d0 := (H1.out wr HB.out).2 _ _ (hps_at hlt).1
      have f0 := (H2.out wr HB.out).2 _ _ (hps_at hlt).1
      have d1 := (H1.out wr HB.out).2 _ _ (hps_at hlt).2.1
      have f1 := (H2.out wr HB.out).2 _ _ (hps_at hlt).2.1
      have d2 := (H1.out wr HB.out).2 _ _ (hps_at hlt).2.2
      have f2 := (H2.out wr HB.out).2 _ _ (hps_at hlt).2.2
      have HE := Lib.hid fun W => eqHop_yes l[i] W
      generalize l[i].jb = x0 at d0 f0 HE
      generalize l[i].fr = x1 at d1 f1 HE
      generalize l[i].bg = x2 at d2 f2 HE
      have i0 : (0 : Int) ≤ (i : Int) := by omega
      have i1 : (i : Int) < (l.length : Int) := by omega
      go_wp2
      go_region_with (go_at_call 74; refine (HE.out _).mono ?_; rintro e w5 ⟨rfl, hb5⟩; have HB5 := Lib.hid (HB.out.drew.trans (hb5.mono HB.out.size)); clear hb5)
      all_goals (
        go_wp2
        go_roundw
        case rel => exact ⟨i + 1, by go_num, by omega, HB5⟩
        case measure => simp [intOf]; omega)
    · go_wp2
      go_ret
      exact ⟨rfl, HB.out⟩
set_option maxHeartbeats 4000000 in
theorem markHopS_any (a : Option Addr) (g : Nat) (vs : List Value) (n c : Nat) (hvs : vs.length = 3 * n) (k0 : Nat) (w : World) (ho : Own w a g vs) (h2 : n ≤ 1048576) (hk0 : k0 ≤ 8388608) :
    Calls Try.prog 31 #[.slice a n c, .int .i64 k0] w fun e w' => ∃ m : Nat, m ≤ k0 + 3 * n ∧ e = .returned (.int .i64 (m : Int)) ∧ w.grownBy w' (some g) := by
  have HA := Lib.hid ho.src.1
  have HO : Hid (MarkedN w w g vs.length) := Lib.hid ⟨⟨rfl, rfl, rfl, Nat.le_refl _, fun _ _ _ => rfl⟩, srcV_cells ho.src ho.opn⟩
  clear ho
  rw [hvs] at HA HO
  clear hvs
  go_enter Try.func31, Try.ntmps31
  go_wp2
  go_loopw [1, 5] (fun q v wr => ∃ (i m : Nat), v = .int .i64 i ∧ i ≤ n ∧ q = .int .i64 (m : Int) ∧ m ≤ k0 + 3 * i ∧ Hid (MarkedN w wr g (3 * n))) (fun _ v _ => n - (intOf v).toNat)
  case atStart => exact ⟨0, k0, rfl, Nat.zero_le _, rfl, Nat.le_refl _, HO⟩
  case round =>
    obtain ⟨i, m, rfl, hi, rfl, hm, HM⟩ := hrel
    by_cases hlt : i < n
    · obtain rfl := HA.out (by omega)
      have HM0 := Lib.hid (HM.out.step (i := i * 3) (u := .int .i64 ((m : Int))) (by omega))
      have HM1 := Lib.hid (HM0.out.step (i := i * 3 + 1) (u := .int .i64 ((m : Int) + 1)) (by omega))
      have HM2 := Lib.hid (HM1.out.step (i := i * 3 + 2) (u := .int .i64 ((m : Int) + 1 + 1)) (by omega))
      obtain ⟨⟨v0, hv0⟩, hf0⟩ := HM.out.open_ (i * 3) (by omega)
      obtain ⟨⟨v1, hv1⟩, hf1⟩ := HM0.out.open_ (i * 3 + 1) (by omega)
      obtain ⟨⟨v2, hv2⟩, hf2⟩ := HM1.out.open_ (i * 3 + 2) (by omega)
      have i0 : (0 : Int) ≤ (i : Int) := by omega
      have i1 : (i : Int) < (n : Int) := by omega
      go_wp2
      go_roundw
      case rel => exact ⟨i + 1, m + 3, by go_num, by omega, by go_num, by omega, HM2⟩
      case measure => simp [intOf]; omega
    · obtain rfl : i = n := by omega
      go_wp2
      go_ret
      exact ⟨m, hm, rfl, HM.out.grown⟩
end Go.Proofs.Ytiialbnfgichhaa
