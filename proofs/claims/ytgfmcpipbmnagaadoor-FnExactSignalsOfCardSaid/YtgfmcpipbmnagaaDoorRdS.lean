/-
  l5Read and ReadTrace of the model. Used by the claims on chapter 5.
-/
import Derived.Test.YtgfmcpipbmnagaaDoorRdL
import Derived.Test.YtgfmcpipbmnagaaDoorDrfB
import Derived.Test.YtgfmcpipbmnagaaDoorSigB
namespace Go.Proofs.YtgfmcpipbmnagaaDoor
open Go.RowKit
set_option linter.unusedVariables false

theorem catR (l : Bs) (b : UInt8) : ((⟨l.toArray⟩ : ByteArray) ++ ⟨#[b]⟩) = ⟨(l ++ [b]).toArray⟩ := by
  apply bl_inj; simp [bl]
theorem bl_of (l : Bs) : bl ⟨l.toArray⟩ = l := by simp [bl]
set_option maxHeartbeats 4000000 in
set_option maxRecDepth 8000 in
theorem sRead_any (a : Option Addr) (g c : Nat) (m : List Nat) (u : Nat) (w : World) (hs : SrcV w a g (ints m)) (hm : IsTr m) (hu : u ≤ 99) :
    Calls Tryd.prog 41 #[.slice a m.length c, .int .i64 u] w fun e w' => e = .returned (.string ⟨(rdL m u).toArray⟩) ∧ Below w.heap.size w w' := by
  have HT := Lib.hid hm
  have hl := hm.len
  have HR := Lib.hid fun k (hk : k < m.length) W hs => sTimes_any a g c m k u W hs hk (by omega) (by have := (hm.at hk).2; omega) hu
  have HS := Lib.hid hs
  clear hs hm
  go_enter Tryd.func41, Tryd.ntmps41
  go_wp2
  go_loopw [5, 6] (fun sv v wr => ∃ (k : Nat) (l : Bs), v = .int .i64 (k : Int) ∧ k ≤ m.length ∧ sv = .string ⟨l.toArray⟩ ∧ l.length ≤ k ∧ Hid (l = rdTo m u k) ∧ wr = w) (fun _ v _ => m.length - (intOf v).toNat)
  case atStart => exact ⟨0, [], rfl, Nat.zero_le _, rfl, Nat.le_refl _, Lib.hid rfl, rfl⟩
  case round =>
    obtain ⟨k, l, rfl, hk, rfl, hll, HL, hww⟩ := hrel
    obtain rfl := hww.symm
    by_cases hlt : k < m.length
    · have HC := Lib.hid (HR.out k hlt w HS.out)
      have HN : Hid (rdTo m u (k + 1) = l ++ rdB k m[k] u) := Lib.hid (by rw [rdTo_succ hlt, ← HL.out])
      have hca := rd_cases k m[k] u
      generalize tms k m[k] u = t at hca HC
      generalize rdB k m[k] u = b at hca HN
      generalize m[k] = x at hca
      have HLn : Hid ((rdTo m u (k + 1)).length ≤ k + 1) := Lib.hid (rdTo_len m u (k + 1))
      have k0 : (0 : Int) ≤ (k : Int) := by omega
      have k1 : (k : Int) < (m.length : Int) := by omega
      have p1 : ¬ 9223372036854775807 < l.length + 1 := by omega
      have hpar := par_facts k (by omega)
      have HM : Hid (k + 1 ≤ m.length ∧ m.length - (k + 1) < m.length - k) := Lib.hid (by omega)
      rcases hca with ⟨hp, _, rfl, rfl⟩ | ⟨hp, _, rfl, rfl⟩ | ⟨hp, _, rfl, rfl⟩ | ⟨hp, _, rfl, rfl⟩ | ⟨hp, _, rfl, rfl⟩
      · have ht := (hpar.resolve_right (fun h => by omega)).2
        clear hpar hp
        have HV := Lib.hid (catR l 46)
        go_wp2_with fail
        refine HC.out.mono ?_
        rintro e w2 ⟨rfl, hww⟩
        obtain rfl := hww.symm
        go_wp2
        go_roundw
        case rel => exact ⟨k + 1, rdTo m u (k + 1), by go_num, HM.out.1, by rw [HV.out, HN.out], HLn.out, Lib.hid rfl, by first | trivial | rfl⟩
        case measure => clear ht; simp [intOf]; omega
      · have ht := (hpar.resolve_right (fun h => by omega)).2
        clear hpar hp
        have HV := Lib.hid (catR l 45)
        go_wp2_with fail
        refine HC.out.mono ?_
        rintro e w2 ⟨rfl, hww⟩
        obtain rfl := hww.symm
        go_wp2
        go_roundw
        case rel => exact ⟨k + 1, rdTo m u (k + 1), by go_num, HM.out.1, by rw [HV.out, HN.out], HLn.out, Lib.hid rfl, by first | trivial | rfl⟩
        case measure => clear ht; simp [intOf]; omega
      · have ht := (hpar.resolve_left (fun h => by omega)).2
        clear hpar hp
        have HV : Hid (l ++ [] = l) := Lib.hid (List.append_nil l)
        go_wp2_with fail
        refine HC.out.mono ?_
        rintro e w2 ⟨rfl, hww⟩
        obtain rfl := hww.symm
        go_wp2
        go_roundw
        case rel => exact ⟨k + 1, rdTo m u (k + 1), by go_num, HM.out.1, by rw [HN.out, HV.out], HLn.out, Lib.hid rfl, by first | trivial | rfl⟩
        case measure => clear ht; simp [intOf]; omega
      · have ht := (hpar.resolve_left (fun h => by omega)).2
        clear hpar hp
        have HV := Lib.hid (catR l 32)
        go_wp2_with fail
        refine HC.out.mono ?_
        rintro e w2 ⟨rfl, hww⟩
        obtain rfl := hww.symm
        go_wp2
        go_roundw
        case rel => exact ⟨k + 1, rdTo m u (k + 1), by go_num, HM.out.1, by rw [HV.out, HN.out], HLn.out, Lib.hid rfl, by first | trivial | rfl⟩
        case measure => clear ht; simp [intOf]; omega
      · have ht := (hpar.resolve_left (fun h => by omega)).2
        clear hpar hp
        have HV := Lib.hid (catR l 47)
        go_wp2_with fail
        refine HC.out.mono ?_
        rintro e w2 ⟨rfl, hww⟩
        obtain rfl := hww.symm
        go_wp2
        go_roundw
        case rel => exact ⟨k + 1, rdTo m u (k + 1), by go_num, HM.out.1, by rw [HV.out, HN.out], HLn.out, Lib.hid rfl, by first | trivial | rfl⟩
        case measure => clear ht; simp [intOf]; omega
    · obtain rfl : k = m.length := by omega
      go_wp2
      go_ret
      exact ⟨by rw [HL.out]; rfl, Below.refl _ _⟩
theorem sReadTrace_no1 (a : Option Addr) (g c : Nat) (l : List Int) (x : Int) (w : World) (hs : SrcV w a g (intz l)) (hl : l.length ≤ 1048576) (h : traceZ l = false) :
    Calls Tryd.prog 7 #[.slice a l.length c, .int .i64 x] w fun e w' => e = .returned (.tuple #[.string ByteArray.empty, .bool false]) ∧ Below w.heap.size w w' := by
  have F1 := sTrace_f l false h hl
  have HS := Lib.hid hs
  clear h hs
  go_enter Tryd.func7, Tryd.ntmps7
  go_wp2_with fail
  refine (F1.out _ _ _ _ HS.out).mono ?_
  rintro e w1 ⟨rfl, hb⟩
  have HB := Lib.hid hb
  clear hb
  go_wp2
  (first | go_ret | go_ret2)
  exact ⟨rfl, HB.out⟩
theorem sReadTrace_no2 (a : Option Addr) (g c : Nat) (l : List Int) (x : Int) (w : World) (hs : SrcV w a g (intz l)) (hl : l.length ≤ 1048576) (h : traceZ l = true) (h2 : okUnit x = false) :
    Calls Tryd.prog 7 #[.slice a l.length c, .int .i64 x] w fun e w' => e = .returned (.tuple #[.string ByteArray.empty, .bool false]) ∧ Below w.heap.size w w' := by
  have F1 := sTrace_f l true h hl
  have F2 := sUnit_f x false h2
  have HS := Lib.hid hs
  clear h hs h2
  go_enter Tryd.func7, Tryd.ntmps7
  go_wp2_with fail
  refine (F1.out _ _ _ _ HS.out).mono ?_
  rintro e w1 ⟨rfl, hb⟩
  have HB := Lib.hid hb
  clear hb
  go_wp2_with fail
  refine (F2.out _).mono ?_
  rintro e w2 ⟨rfl, hww⟩
  obtain rfl := hww.symm
  go_wp2
  (first | go_ret | go_ret2)
  exact ⟨rfl, HB.out⟩
def rdOut (m : List Nat) (u : Nat) : ByteArray × Bool := if (pieces (rdL m u)).isSome = true then (⟨(rdL m u).toArray⟩, true) else (ByteArray.empty, false)
set_option maxHeartbeats 2000000 in
theorem sReadTrace_yes (a : Option Addr) (g c : Nat) (m : List Nat) (u : Nat) (w : World) (hs : SrcV w a g (ints m)) (hm : IsTr m) (hu0 : 1 ≤ u) (hu : u ≤ 99) :
    Calls Tryd.prog 7 #[.slice a m.length c, .int .i64 u] w fun e w' => e = .returned (.tuple #[.string (rdOut m u).1, .bool (rdOut m u).2]) ∧ Below w.heap.size w w' := by
  have F1 := sTrace_m m hm
  have F2 := sUnit_f (u : Int) true (okUnit_of u hu0 hu)
  have HRd := Lib.hid fun W hs => sRead_any a g c m u W hs hm hu
  have hlen := rdTo_len m u m.length
  have hl := hm.len
  have HSg := Lib.hid fun W => sSignal_any ⟨(rdL m u).toArray⟩ W (by show (rdL m u).toArray.size ≤ _; rw [List.size_toArray]; unfold rdL; omega)
  have HS := Lib.hid hs
  clear hs hm
  cases h : (pieces (rdL m u)).isSome
  · have HV : Hid (rdOut m u = (ByteArray.empty, false)) := Lib.hid (by unfold rdOut; rw [h]; rfl)
    rw [bl_of, h] at HSg
    rw [HV.out]
    clear h
    generalize rdL m u = l at HRd HSg
    go_enter Tryd.func7, Tryd.ntmps7
    go_wp2_with fail
    refine (F1.out _ _ _ _ HS.out).mono ?_
    rintro e w1 ⟨rfl, hb⟩
    have HB := Lib.hid hb
    have HS1 := Lib.hid (HS.out.below hb)
    clear hb
    go_wp2_with fail
    refine (F2.out _).mono ?_
    rintro e w2 ⟨rfl, hww⟩
    obtain rfl := hww.symm
    go_wp2_with fail
    refine (HRd.out _ HS1.out).mono ?_
    rintro e w3 ⟨rfl, hb⟩
    have HB3 := Lib.hid (HB.out.trans (hb.mono HB.out.size))
    clear hb
    go_wp2_with fail
    refine (HSg.out _).mono ?_
    rintro e w4 ⟨rfl, hb⟩
    have HB4 := Lib.hid (HB3.out.trans (hb.mono HB3.out.size))
    clear hb
    go_wp2
    (first | go_ret | go_ret2)
    exact ⟨rfl, HB4.out⟩
  · have HV : Hid (rdOut m u = (⟨(rdL m u).toArray⟩, true)) := Lib.hid (by unfold rdOut; rw [h]; rfl)
    rw [bl_of, h] at HSg
    rw [HV.out]
    clear h
    generalize rdL m u = l at HRd HSg
    go_enter Tryd.func7, Tryd.ntmps7
    go_wp2_with fail
    refine (F1.out _ _ _ _ HS.out).mono ?_
    rintro e w1 ⟨rfl, hb⟩
    have HB := Lib.hid hb
    have HS1 := Lib.hid (HS.out.below hb)
    clear hb
    go_wp2_with fail
    refine (F2.out _).mono ?_
    rintro e w2 ⟨rfl, hww⟩
    obtain rfl := hww.symm
    go_wp2_with fail
    refine (HRd.out _ HS1.out).mono ?_
    rintro e w3 ⟨rfl, hb⟩
    have HB3 := Lib.hid (HB.out.trans (hb.mono HB.out.size))
    clear hb
    go_wp2_with fail
    refine (HSg.out _).mono ?_
    rintro e w4 ⟨rfl, hb⟩
    have HB4 := Lib.hid (HB3.out.trans (hb.mono HB3.out.size))
    clear hb
    go_wp2
    (first | go_ret | go_ret2)
    exact ⟨rfl, HB4.out⟩
end Go.Proofs.YtgfmcpipbmnagaaDoor
