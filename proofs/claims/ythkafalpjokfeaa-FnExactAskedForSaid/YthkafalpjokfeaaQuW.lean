/-
  The iterator of questions: what it tells. Used by the claims on chapter 11.
-/
import Derived.Test.YthkafalpjokfeaaQsW
namespace Go.Proofs.Ythkafalpjokfeaa
open Go.RowKit Go.Shelf
set_option linter.unusedVariables false

attribute [local go_sem] Oper.semAt_some

/-- What lies where the iterator reads. -/
def Kq (a : Option Addr) (b o c : Nat) (xs : List ByteArray) (a1 : Option Addr) (g1 c1 : Nat) (m : List Nat) (B1 B2 : Nat) (W : World) : Prop :=
  W.cell? ⟨B1, 0, none⟩ = some (.slice a xs.length c) ∧ W.cell? ⟨B2, 0, none⟩ = some (.slice a1 m.length c1) ∧ ListIn W a b o xs ∧ SrcV W a1 g1 (ints m)

set_option maxRecDepth 100000 in
set_option maxHeartbeats 4000000 in
theorem questions_tells (a : Option Addr) (b o c : Nat) (xs : List ByteArray) (a1 : Option Addr) (g1 c1 : Nat) (m : List Nat) (B1 B2 : Nat) (hne : m ≠ []) (hm : ∀ i ∈ m, i < xs.length) (h5 : ∀ i ∈ m, (atL xs i).size ≤ 5) (hml : m.length ≤ 10) (n : Nat) (hn : 1 ≤ n) (w : World) :
    TellsQ xs m Fence.wide n Try.prog 131 #[.pointer (some ⟨B1, 0, none⟩), .pointer (some ⟨B2, 0, none⟩)] (Kq a b o c xs a1 g1 c1 m B1 B2) w := by
  intro l J Jx W hW hK hG hV hY h0
  have hmo : Try.prog.follows .mixedOrders = true := by kernel_rfl
  refine callsIn_of_wp Try.func131 rfl trivial ?_ rfl
  simp only [Try.ntmps131, List.size_toArray, List.length_cons, List.length_nil, Nat.reduceAdd, Nat.reduceSub, Array.replicate_succ, Array.replicate_zero, List.push_toArray, List.append_toArray, List.nil_append, List.cons_append]
  have hfn : ∀ f, Fence.wide.fn f := fun _ => trivial
  have HK := Lib.hid hK
  have HG := Lib.hid hG
  have HV := Lib.hid hV
  have HY := Lib.hid hY
  have H0 := Lib.hid h0
  have HF := Lib.hid fun k (hk : k ≤ 5) W1 (h : Kq a b o c xs a1 g1 c1 m B1 B2 W1) => (callsIn_wide (n := n - 1)).2 (partsAt_any a b o c xs a1 g1 c1 m k W1 h.2.2.1 h.2.2.2 hm h5 hml hk)
  have HP := Lib.hid fun k => prts_len (xs := xs) (p := k) hne
  clear hK hG hV hY h0 hW hm h5 hne
  gi_wp2
  gi_loopw [6] (fun v wr => ∃ k : Nat, v = .int .i64 (k : Int) ∧ k ≤ 5 ∧ Hid (J k wr)) (fun v _ => 5 - (intOf v).toNat)
  case atStart => exact ⟨0, rfl, Nat.zero_le _, H0⟩
  case round =>
    obtain ⟨k, rfl, hk, HJ⟩ := hrel
    by_cases hlt : k < 5
    · have hkq := HK.out k wr HJ.out
      have d1 := hkq.1
      have d2 := hkq.2.1
      have G := Lib.hid (HF.out k hk wr hkq)
      obtain ⟨p1, p2, p3⟩ := HP.out k
      have HL := Lib.hid p1
      clear hkq p1
      cases hv : vainB xs m k with
      | true =>
        have hl1 : (prts xs m k).length = 1 := HL.out.2 hv
        have HVk := Lib.hid fun W1 h => HV.out k W1 h hv
        have t1 : ¬ (1 : Int) < ((prts xs m k).length : Int) := by omega
        have t2 : ¬ 1 < (prts xs m k).length := by omega
        obtain ⟨ps, hps⟩ : ∃ ps, prts xs m k = ps := ⟨_, rfl⟩
        rw [hps] at G t1 t2
        clear hv hps hl1 p2 p3 HL
        gi_wp2_with fail
        refine (G.out).mono ?_
        rintro e w2 ⟨g, rfl, hg, hlies, hb⟩
        have HJ2 := Lib.hid (HVk.out _ (HG.out k wr w2 HJ.out hb))
        clear hlies hb d1 d2 hg
        gi_wp2
        go_roundw
        case rel => exact ⟨k + 1, by first | rfl | go_num, by omega, HJ2⟩
        case measure => simp [intOf]; omega
      | false =>
        have hl1 : (prts xs m k).length ≠ 1 := fun e => by rw [HL.out.1 e] at hv; cases hv
        have HYk := Lib.hid fun W1 g h1 h2 => HY.out k W1 g hlt h1 hv h2
        have t1 : (1 : Int) < ((prts xs m k).length : Int) := by omega
        have t2 : 1 < (prts xs m k).length := by omega
        obtain ⟨ps, hps⟩ : ∃ ps, prts xs m k = ps := ⟨_, rfl⟩
        rw [hps] at G t1 t2 HYk
        clear hv hps hl1 p2 p3 HL
        gi_wp2_with fail
        refine (G.out).mono ?_
        rintro e w2 ⟨g, rfl, hg, hlies, hb⟩
        obtain ⟨fn, tmps, assign, body, hy, hR⟩ := HYk.out w2 g (HG.out k wr w2 HJ.out hb) hlies
        clear hlies hb d1 d2 hg
        gi_wp2
        refine hR.mono ?_
        rintro e W3 (⟨rfl, hJ3⟩ | ⟨rfl, hJ3⟩)
        · have HJ3 := Lib.hid hJ3
          clear hJ3 hR hy
          gi_wp2
          go_roundw
          case rel => exact ⟨k + 1, by first | rfl | go_num, by omega, HJ3⟩
          case measure => simp [intOf]; omega
        · have HJ3 := Lib.hid hJ3
          clear hJ3 hR hy
          gi_wp2
          refine bodyPost_ret (results_none rfl _ _ _) rfl ?_
          exact ⟨⟨_, rfl⟩, .inr HJ3.out⟩
    · obtain rfl : k = 5 := by omega
      gi_wp2
      go_end0
      exact ⟨⟨_, rfl⟩, .inl HJ.out⟩
end Go.Proofs.Ythkafalpjokfeaa
