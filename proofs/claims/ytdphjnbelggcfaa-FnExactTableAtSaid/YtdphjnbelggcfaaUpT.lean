/-
  textOf and MarksOfNode of the program. Used by the claims on chapter 9.
-/
import Derived.Test.YtdphjnbelggcfaaUpW
import Derived.Shelf.RegionOpen
namespace Go.Proofs.Ytdphjnbelggcfaa
open Go.RowKit Go.Shelf
set_option linter.unusedVariables false

attribute [local go_sem] Oper.semAt_some

theorem ba_cons (b : UInt8) (l : Bs) : (⟨#[b]⟩ : ByteArray) ++ ba l = ba (b :: l) := by
  apply bl_inj
  rw [bl_ba]
  show (_ : ByteArray).data.toList = _
  rw [ByteArray.data_append, Array.toList_append]
  show [b] ++ bl (ba l) = _
  rw [bl_ba]; rfl
theorem lastMark_in (F : Fence) (n : Nat) (hf : F.fn 119) (hro : F.round = none) (m : Nat) (hm : m ≤ 63) (w : World) :
    CallsIn F n Try.prog 119 #[.int .i64 (m : Int)] w fun e w' => e = .returned (.string ⟨#[lastMk m]⟩) ∧ w' = w := by
  refine callsIn_of_wp Try.func119 rfl hf ?_ hro
  simp only [Try.ntmps119, List.size_toArray, List.length_cons, List.length_nil, Nat.reduceAdd, Nat.reduceSub, Array.replicate_succ, Array.replicate_zero, List.push_toArray, List.append_toArray, List.nil_append, List.cons_append]
  by_cases h : m % 2 = 0
  · have HR : Hid (lastMk m = 46) := Lib.hid (if_pos h)
    have e1 : (((m : Int).tmod 2) == 0) = true := by rw [Int.tmod_eq_emod_of_nonneg (by omega)]; simp; omega
    have e2 : (((m : Int) % 2) == 0) = true := by simp; omega
    clear h
    gi_wp2
    refine bodyPost_ret (results_tmp rfl _ _ _) rfl ?_
    exact ⟨by rw [HR.out]; rfl, rfl⟩
  · have HR : Hid (lastMk m = 45) := Lib.hid (if_neg h)
    have e1 : (((m : Int).tmod 2) == 0) = false := by rw [Int.tmod_eq_emod_of_nonneg (by omega)]; simp; omega
    have e2 : (((m : Int) % 2) == 0) = false := by simp; omega
    clear h
    gi_wp2
    refine bodyPost_ret (results_tmp rfl _ _ _) rfl ?_
    exact ⟨by rw [HR.out]; rfl, rfl⟩

set_option maxRecDepth 100000 in
set_option maxHeartbeats 2000000 in
theorem textOf_in (F : Fence) (n : Nat) (h77 : F.fn 77) (h1 : F.fn 118) (h2 : F.fn 125) (h3 : F.fn 119) (hro : F.round = none) (hn : 6 ≤ n) (m : Nat) (hm : m ≤ 63) (w : World) :
    CallsIn F n Try.prog 77 #[.int .i64 (m : Int)] w fun e w' => e = .returned (.string (ba (txN m))) ∧ Below w.heap.size w w' := by
  have hmo : Try.prog.follows .mixedOrders = true := by kernel_rfl
  refine callsIn_of_wp_marks Try.func77 rfl h77 ?_ hro
  simp only [Try.ntmps77, List.size_toArray, List.length_cons, List.length_nil, Nat.reduceAdd, Nat.reduceSub, Array.replicate_succ, Array.replicate_zero, List.push_toArray, List.append_toArray, List.nil_append, List.cons_append]
  gi_wp2
  have bP : Boxed (w.alloc (.cells #[.string ⟨#[]⟩] 9)) w.heap.size 9 (.string ⟨#[]⟩) := Boxed.new w 9 (.string ⟨#[]⟩)
  have hsz : (w.alloc (.cells #[.string ⟨#[]⟩] 9)).heap.size = w.heap.size + 1 := by simp
  refine range_bound hro (by omega) (gf := 118) (b0 := .int .i64 (m : Int)) (enc := fun x : Nat => .int .i64 (x : Int)) (ys := upsN m) rfl h1 (enters_of Try.func118 (by kernel_rfl) rfl)
    (upwards_tells F (n - 1) h1 h2 hro (by omega) m hm _)
    (fun pre W => Boxed W w.heap.size 9 (.string (ba (upT pre))) ∧ Below w.heap.size w W)
    ?own ⟨bP, (Below.refl _ w).alloc (Nat.le_refl _) _⟩
    (fun x => { tmps := #[.int .i64 (m : Int), undef, .string ⟨#[]⟩, .pointer (some ⟨w.heap.size, 0, none⟩), .int .i64 (x : Int), .int .i64 (m : Int), .func (.func 118) #[.int .i64 (m : Int)] #[], .int .i64 (x : Int), undef, undef, undef, undef, undef], defers := [] }) ?assign ?body ?done
  case own =>
    rw [hsz]
    rintro pre X Y row ⟨hv, hB⟩ hg hrow
    refine ⟨hv.kept hg (fun e' => ?_), hB.grown hg hB.size (fun k e => by have := (hrow k e).1; omega)⟩
    have := (hrow w.heap.size e'.symm).1
    omega
  case assign =>
    intro l x W K hK
    gi_wp2
    exact hK
  case body =>
    rintro l pre x W ⟨hv, hB⟩ hpre
    have hx := (upsN_le m x (hpre.subset (by simp))).2
    have hlen := hpre.length_le
    have hul := upsN_len m 5 (by omega)
    have hx63 : x ≤ 63 := by omega
    have hsz : (ba (upT pre)).size ≤ 5 := by rw [ba_size]; unfold upT; rw [List.length_reverse, List.length_map]; simp at hlen; omega
    have HE : Hid ((⟨#[lastMk x]⟩ : ByteArray) ++ ba (upT pre) = ba (upT (pre ++ [x]))) := Lib.hid (by rw [upT_snoc, ba_cons])
    have HV := Lib.hid hv
    have HB := Lib.hid hB
    have hc := hv.cell
    have hf := hv.frozen
    have hd : 1 ≤ n - 1 - 1 := by omega
    generalize ba (upT pre) = s0 at *
    clear hpre hx hlen hul hv hB
    gi_wp2
    gi_region_with_o (gi_at_call 119; refine (CallsIn.inRound l (lastMark_in F _ h3 hro x hx63 _)).mono ?_; rintro e w' ⟨rfl, rfl⟩)
    all_goals (
      refine ⟨((KeepsOthers.setCell _ _ _).trans (KeepsOthers.drew _)).from _, ?_, ?_⟩
      · rw [← HE.out]; exact HV.out.set _
      · exact (HB.out.setCell (p := ⟨w.heap.size, 0, none⟩) (Nat.le_refl _) _).drew)
  case done =>
    rintro D W hD ⟨hv, hB⟩ hK
    have hc := hv.cell
    gi_wp2
    refine ⟨by simp, .inl ⟨_, _, rfl, run_takeDeferred hK, ?_⟩⟩
    exact ⟨_, results_tmp rfl _ _ _, by rw [upT_ups]; rfl, hB.trans (belowK_b (w := w) (Nat.le_refl _) W D _ _ (by simp at hD; omega) hK rfl rfl)⟩
theorem textOf_any (m : Nat) (hm : m ≤ 63) (w : World) :
    Calls Try.prog 77 #[.int .i64 (m : Int)] w fun e w' => e = .returned (.string (ba (txN m))) ∧ Below w.heap.size w w' :=
  callsIn_wide.1 (textOf_in Fence.wide 6 trivial trivial trivial trivial rfl (Nat.le_refl _) m hm w)
def moR (z : Int) : ByteArray := if 1 ≤ z ∧ z ≤ 63 then ba (txN z.toNat) else ⟨#[]⟩
def moB (z : Int) : Bool := decide (1 ≤ z) && decide (z ≤ 63)
theorem mo_yes {z : Int} (h : 1 ≤ z ∧ z ≤ 63) : ∃ m : Nat, z = (m : Int) ∧ 1 ≤ m ∧ m ≤ 63 ∧ moR z = ba (txN m) ∧ moB z = true := by
  obtain ⟨m, rfl⟩ : ∃ m : Nat, z = (m : Int) := ⟨z.toNat, by omega⟩
  exact ⟨m, rfl, by omega, by omega, by unfold moR; rw [if_pos h, Int.toNat_natCast], by unfold moB; simp; omega⟩
theorem mo_no {z : Int} (h : ¬ (1 ≤ z ∧ z ≤ 63)) : moR z = ⟨#[]⟩ ∧ moB z = false := by
  refine ⟨by unfold moR; rw [if_neg h], ?_⟩
  rw [Bool.eq_false_iff]; intro e
  unfold moB at e
  simp only [Bool.and_eq_true, decide_eq_true_eq] at e
  exact h e
theorem marksOfNode_any (z : Int) (w : World) :
    Calls Try.prog 23 #[.int .i64 z] w fun e w' => e = .returned (.tuple #[.string (moR z), .bool (moB z)]) ∧ Below w.heap.size w w' := by
  by_cases h : 1 ≤ z ∧ z ≤ 63
  · obtain ⟨m, rfl, m1, m2, hR, hB⟩ := mo_yes h
    have HR := Lib.hid hR
    have HB := Lib.hid hB
    have F := Lib.hid fun W => textOf_any m m2 W
    have q1 : ¬ (m : Int) < 1 := by omega
    have q2 : ¬ (63 : Int) < (m : Int) := by omega
    clear h hR hB
    go_enter Try.func23, Try.ntmps23
    go_wp2_with fail
    refine (F.out _).mono ?_
    rintro e w1 ⟨rfl, hb⟩
    have Hb := Lib.hid hb
    clear hb
    go_wp2
    go_ret2
    exact ⟨by rw [HR.out, HB.out]; rfl, Hb.out⟩
  · have HR := Lib.hid (mo_no h)
    by_cases h1 : z < 1
    · clear h
      go_enter Try.func23, Try.ntmps23
      go_wp2
      go_ret2
      exact ⟨by rw [HR.out.1, HR.out.2]; rfl, Below.refl _ _⟩
    · have h2 : 63 < z := by omega
      clear h
      go_enter Try.func23, Try.ntmps23
      go_wp2
      go_ret2
      exact ⟨by rw [HR.out.1, HR.out.2]; rfl, Below.refl _ _⟩
end Go.Proofs.Ytdphjnbelggcfaa
