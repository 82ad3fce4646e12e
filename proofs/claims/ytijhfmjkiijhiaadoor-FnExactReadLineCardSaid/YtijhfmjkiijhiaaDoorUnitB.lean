/-
  l4Unit of the model; UnitOf, the program's and the model's: both answer alike. Used by the claims on chapter 4.
-/
import Derived.Test.YtijhfmjkiijhiaaDoorUnitS
namespace Go.Proofs.YtijhfmjkiijhiaaDoor
open Go.RowKit
set_option linter.unusedVariables false

theorem rem_facts (m n : Nat) (h0 : 0 < n) (hn : n ≤ 1048576) : ∃ r : Nat, m % n = r ∧ (0 : Int) < (n : Int) ∧ ¬ (n : Int) = 0 ∧ Int.tmod (m : Int) (n : Int) = (r : Int) ∧ wrap64 (r : Int) = (r : Int) ∧ IntKind.i64.wrap (r : Int) = (r : Int) ∧ r < n ∧ r ≤ 1048576 := by
  have h : m % n < n := Nat.mod_lt _ h0
  refine ⟨m % n, rfl, by omega, by omega, by rw [Int.tmod_eq_emod_of_nonneg (by omega)]; rfl, ?_, ?_, h, by omega⟩
  · generalize m % n = r at h ⊢
    exact IntWalk.wrap64_in _ (by omega)
  · generalize m % n = r at h ⊢
    rw [IntKind.wrap_i64]; omega
theorem inner_max (s : ByteArray) (hs : s.size ≤ 1048576) (hbt : ∀ c ∈ bl s, c = 48 ∨ c = 49) : ∀ p ∈ innerL (runsL (bl s)), p.2 ≤ 1048576 := fun p hp =>
  runs_max s hs hbt p (List.mem_of_mem_take (List.mem_of_mem_drop hp))
theorem inner_len (s : ByteArray) (hs : s.size ≤ 1048576) : (innerL (runsL (bl s))).length ≤ 1048576 := by
  have := runsTo_le (bl s) (bl s).length
  rw [bl_len] at this
  rw [inner_eq, List.length_drop, List.length_take]
  have e : (runsL (bl s)).length ≤ s.size := by rw [runsL, bl_len]; exact this
  omega
set_option maxHeartbeats 4000000 in
set_option maxRecDepth 8000 in
theorem sUnit_any (s : ByteArray) (w : World) (hs : s.size ≤ 1048576) (hbt : ∀ c ∈ bl s, c = 48 ∨ c = 49) :
    Calls Tryd.prog 69 #[.string s] w fun e w' => e = .returned (.int .i64 ((unitL (innerL (runsL (bl s))) : Nat) : Int)) ∧ Below w.heap.size w w' := by
  have F := Lib.hid fun w => sInner_any s w hs hbt
  have HM := Lib.hid (inner_max s hs hbt)
  have hln := inner_len s hs
  generalize innerL (runsL (bl s)) = rs at F HM hln
  clear hbt
  go_enter Tryd.func69, Tryd.ntmps69
  go_wp2_with fail
  refine (F.out _).mono ?_
  rintro e w1 ⟨⟨g, c, rfl, hsv, _, _, _⟩, hb⟩
  have HS := Lib.hid fun W hb => hsv.below (w' := W) hb
  have HB1 := Lib.hid hb
  clear hsv hb F
  go_wp2
  go_loopw [3, 5] (fun uv v wr => ∃ (k u : Nat), v = .int .i64 k ∧ k ≤ rs.length ∧ uv = .int .i64 u ∧ u ≤ 1048576 ∧ Hid (u = unitTo rs k) ∧ Hid (Below w1.heap.size w1 wr)) (fun _ v _ => rs.length - (intOf v).toNat)
  case atStart => exact ⟨0, 0, rfl, Nat.zero_le _, rfl, Nat.zero_le _, Lib.hid rfl, Lib.hid (Below.refl _ _)⟩
  case round =>
    obtain ⟨k, u, rfl, hk, rfl, hu, HU, HB⟩ := hrel
    by_cases hlt : k < rs.length
    · have d2 := (HS.out wr HB.out).2 _ _ (prs_at hlt).2
      have HN : Hid (Nat.gcd u (rs[k]).2 = unitTo rs (k + 1)) := Lib.hid (by rw [HU.out]; show _ = Nat.gcd (unitTo rs k) (rs.getD k (0, 0)).2; rw [rs_at hlt])
      have hy : (rs[k]).2 ≤ 1048576 := HM.out _ (List.getElem_mem hlt)
      generalize (rs[k]).2 = y at d2 HN hy
      have i0 : (0 : Int) ≤ (k : Int) := by omega
      have i1 : (k : Int) < (rs.length : Int) := by omega
      have e2 : k * 2 = 2 * k := Nat.mul_comm _ _
      rw [← e2] at d2
      clear e2
      go_wp2
      go_region
      have HB5 : Hid (Below w1.heap.size w1 wr.drew) := Lib.hid HB.out.drew
      generalize wr.drew = W0 at HB5
      go_wp2
      go_loopw [6, 7] (fun xv yv wr2 => ∃ (m n : Nat), xv = .int .i64 m ∧ yv = .int .i64 n ∧ m ≤ 1048576 ∧ n ≤ 1048576 ∧ Hid (Nat.gcd m n = Nat.gcd u y) ∧ Hid (Below w1.heap.size w1 wr2)) (fun _ yv _ => (intOf yv).toNat)
      case atStart => exact ⟨u, y, rfl, rfl, hu, hy, Lib.hid rfl, HB5⟩
      case round =>
        obtain ⟨m, n, rfl, rfl, hm, hn, HG, HBi⟩ := hrel
        rcases Nat.eq_zero_or_pos n with h0 | h0
        · have HE : Hid (m = unitTo rs (k + 1)) := Lib.hid (by rw [← HN.out, ← HG.out, h0, Nat.gcd_zero_right])
          have t1 : ¬ (0 : Int) < (n : Int) := by omega
          have t2 : decide ((0 : Int) < (n : Int)) = false := by simp; omega
          have t3 : decide (0 < n) = false := by simp; omega
          clear h0
          go_wp2
          go_roundw
          case rel => exact ⟨k + 1, m, by go_num, by omega, rfl, hm, HE, HBi⟩
          case measure => simp [intOf]; omega
        · obtain ⟨r, hr, t1, t3, t4, t5, t6, hltr, hr2⟩ := rem_facts m n h0 hn
          have HN2 : Hid (Nat.gcd n r = Nat.gcd u y) := Lib.hid (by rw [← hr, ← HG.out, Nat.gcd_comm m n, Nat.gcd_rec n m, Nat.gcd_comm])
          clear hr
          go_wp2
          go_roundw
          case rel => exact ⟨n, r, rfl, rfl, hn, hr2, HN2, HBi⟩
          case measure => simp [intOf]; exact hltr
    · have HE : Hid (unitL rs = u) := Lib.hid (by rw [HU.out, unitL]; congr 1; omega)
      go_wp2
      go_ret
      exact ⟨by rw [HE.out]; rfl, HB1.out.trans (HB.out.mono HB1.out.size)⟩

/-! ### UnitOf -/
theorem unitOfX_no (s : ByteArray) (w : World) (hs : s.size ≤ 1048576) (h : lineL (bl s) = false) :
    Calls Tryd.prog 38 #[.string s] w fun e w' => e = .returned (.tuple #[.int .i64 0, .bool false]) ∧ Below w.heap.size w w' := by
  have F := isLine_is s false hs h
  clear h
  go_enter Tryd.func38, Tryd.ntmps38
  go_wp2_with fail
  refine (F.out _).mono ?_
  rintro e w1 ⟨rfl, hb⟩
  have HB := Lib.hid hb
  clear hb
  go_wp2
  (first | go_ret | go_ret2)
  exact ⟨rfl, HB.out⟩
theorem sUnitOf_no (s : ByteArray) (w : World) (hs : s.size ≤ 1048576) (h : lineL (bl s) = false) :
    Calls Tryd.prog 37 #[.string s] w fun e w' => e = .returned (.tuple #[.int .i64 0, .bool false]) ∧ Below w.heap.size w w' := by
  have F := sLine_is s false hs h
  clear h
  go_enter Tryd.func37, Tryd.ntmps37
  go_wp2_with fail
  refine (F.out _).mono ?_
  rintro e w1 ⟨rfl, hb⟩
  have HB := Lib.hid hb
  clear hb
  go_wp2
  (first | go_ret | go_ret2)
  exact ⟨rfl, HB.out⟩
theorem bl_mk (l : Bs) : bl ⟨l.toArray⟩ = l := by simp [bl]
theorem trimT (s : ByteArray) (hs : s.size ≤ 1048576) (hbt : ∀ c ∈ bl s, c = 48 ∨ c = 49) : (⟨(trimL (bl s)).toArray⟩ : ByteArray).size ≤ 1048576 ∧ (∀ c ∈ bl ⟨(trimL (bl s)).toArray⟩, c = 48 ∨ c = 49) ∧ runsL (bl ⟨(trimL (bl s)).toArray⟩) = innerL (runsL (bl s)) := by
  refine ⟨?_, ?_, ?_⟩
  · have := trim_len (bl s)
    rw [bl_len] at this
    rw [sizeE]; omega
  · rw [bl_mk]; exact trim_beat hbt
  · rw [bl_mk]; exact (runs_trim hbt).1
theorem unitOfX_yes (s : ByteArray) (w : World) (hs : s.size ≤ 1048576) (h : lineL (bl s) = true) :
    Calls Tryd.prog 38 #[.string s] w fun e w' => e = .returned (.tuple #[.int .i64 ((unitL (innerL (runsL (bl s))) : Nat) : Int), .bool true]) ∧ Below w.heap.size w w' := by
  have F := isLine_is s true hs h
  have hbt := fun c hc => line_beat h (c := c) hc
  obtain ⟨h1, h2, h3⟩ := trimT s hs hbt
  have G := Lib.hid fun w => withoutEnds_any s w hs
  have H := Lib.hid fun w => unitOf_any _ w h1 h2
  rw [h3] at H
  generalize trimL (bl s) = t at G H
  generalize unitL (innerL (runsL (bl s))) = u at H
  clear h h1 h2 h3 hbt
  go_enter Tryd.func38, Tryd.ntmps38
  go_wp2_with fail
  refine (F.out _).mono ?_
  rintro e w1 ⟨rfl, hb⟩
  have HB := Lib.hid hb
  clear hb
  go_wp2_with fail
  refine (G.out _).mono ?_
  rintro e w2 ⟨rfl, hb⟩
  have HB2 := Lib.hid (HB.out.trans (hb.mono HB.out.size))
  clear hb
  go_wp2_with fail
  refine (H.out _).mono ?_
  rintro e w3 ⟨rfl, hb⟩
  have HB3 := Lib.hid (HB2.out.trans (hb.mono HB2.out.size))
  clear hb
  go_wp2
  (first | go_ret | go_ret2)
  exact ⟨rfl, HB3.out⟩
theorem sUnitOf_yes (s : ByteArray) (w : World) (hs : s.size ≤ 1048576) (h : lineL (bl s) = true) :
    Calls Tryd.prog 37 #[.string s] w fun e w' => e = .returned (.tuple #[.int .i64 ((unitL (innerL (runsL (bl s))) : Nat) : Int), .bool true]) ∧ Below w.heap.size w w' := by
  have F := sLine_is s true hs h
  have H := Lib.hid fun w => sUnit_any s w hs (fun c hc => line_beat h (c := c) hc)
  generalize unitL (innerL (runsL (bl s))) = u at H
  clear h
  go_enter Tryd.func37, Tryd.ntmps37
  go_wp2_with fail
  refine (F.out _).mono ?_
  rintro e w1 ⟨rfl, hb⟩
  have HB := Lib.hid hb
  clear hb
  go_wp2_with fail
  refine (H.out _).mono ?_
  rintro e w3 ⟨rfl, hb⟩
  have HB3 := Lib.hid (HB.out.trans (hb.mono HB.out.size))
  clear hb
  go_wp2
  (first | go_ret | go_ret2)
  exact ⟨rfl, HB3.out⟩
theorem unitOf_both (s : ByteArray) (hs : s.size ≤ 1048576) : ∃ (R0 : Int) (R1 : Bool),
    Hid (∀ W, Calls Tryd.prog 37 #[.string s] W fun e W' => e = .returned (.tuple #[.int .i64 R0, .bool R1]) ∧ Below W.heap.size W W') ∧
    Hid (∀ W, Calls Tryd.prog 38 #[.string s] W fun e W' => e = .returned (.tuple #[.int .i64 R0, .bool R1]) ∧ Below W.heap.size W W') := by
  cases h : lineL (bl s)
  · exact ⟨_, _, fun W => sUnitOf_no s W hs h, fun W => unitOfX_no s W hs h⟩
  · exact ⟨_, _, fun W => sUnitOf_yes s W hs h, fun W => unitOfX_yes s W hs h⟩
end Go.Proofs.YtijhfmjkiijhiaaDoor
