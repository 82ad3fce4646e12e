/-
  slices.Concat of numbers; JoinTraces. Used by the claim on JoinTraces.
-/
import Derived.Test.YtgfmcpipbmnagaaJnW
namespace Go.Proofs.Ytgfmcpipbmnagaa
open Go.RowKit
set_option linter.unusedVariables false

/-- A part: where it lies, and what it holds. -/
structure Part where
  a : Option Addr
  g : Nat
  c : Nat
  l : List Int
def Part.val (p : Part) : Value := .slice p.a p.l.length p.c
def flatP (ps : List Part) : List Int := ps.flatMap Part.l
theorem flatP_take (ps : List Part) (k : Nat) (h : k < ps.length) : flatP (ps.take (k + 1)) = flatP (ps.take k) ++ ps[k].l := by
  unfold flatP
  rw [List.take_add_one, List.getElem?_eq_getElem h, List.flatMap_append]
  show _ ++ ([ps[k]].flatMap Part.l) = _
  rw [List.flatMap_cons, List.flatMap_nil, List.append_nil]
theorem flatP_take_le (ps : List Part) (k : Nat) : (flatP (ps.take k)).length ≤ (flatP ps).length := by
  have : flatP ps = flatP (ps.take k) ++ flatP (ps.drop k) := by
    unfold flatP
    rw [← List.flatMap_append, List.take_append_drop]
  rw [this, List.length_append]
  omega
def PartsAt (W : World) (B : Nat) (ps : List Part) : Prop := ∀ (k : Nat) p, ps[k]? = some p → W.cell? ⟨B, k, none⟩ = some p.val ∧ SrcV W p.a p.g (intz p.l) ∧ 0 < p.l.length
theorem PartsAt.below {W W' : World} {B : Nat} {ps : List Part} (h : PartsAt W B ps) (hb : Below W.heap.size W W') : PartsAt W' B ps := fun k p hp =>
  ⟨(hb.cell (World.block_lt_of_cell? _ _ (h k p hp).1)).trans (h k p hp).1, (h k p hp).2.1.below hb, (h k p hp).2.2⟩
set_option maxHeartbeats 4000000 in
set_option maxRecDepth 8000 in
theorem concat_any (B c : Nat) (ps : List Part) (w : World) (h : PartsAt w B ps) (hn : ps.length ≤ 1000) (htot : (flatP ps).length ≤ 100000) (hpos : 0 < (flatP ps).length) :
    Calls Try.prog 66 #[.slice (some ⟨B, 0, none⟩) ps.length c] w fun e w' => ∃ v, e = .returned v ∧ w'.ownsRow w.heap.size 3 1 v (flatP ps).length (intz (flatP ps)) ∧ Below w.heap.size w w' := by
  obtain ⟨i0, hi, hz0, hz1, hz2⟩ := info_parts infoIntI
  have HP := Lib.hid fun W hb => h.below (W' := W) hb
  have HG := Lib.hid fun w => grow_any (flatP ps).length w hpos htot
  clear h
  go_enter Try.func66, Try.ntmps66
  go_wp2
  go_loopw [3, 11] (fun sv v wr => ∃ k : Nat, v = .int .i64 (k : Int) ∧ k ≤ ps.length ∧ sv = .int .i64 (((flatP (ps.take k)).length : Nat) : Int) ∧ wr = w) (fun _ v _ => ps.length - (intOf v).toNat)
  case atStart => exact ⟨0, rfl, Nat.zero_le _, rfl, rfl⟩
  case round =>
    obtain ⟨k, rfl, hk, rfl, hww⟩ := hrel
    obtain rfl := hww.symm
    have hle := flatP_take_le ps k
    by_cases hlt : k < ps.length
    · obtain ⟨hc, hsrc, h0⟩ := HP.out w (Below.refl _ _) k _ (List.getElem?_eq_getElem hlt)
      have HN : Hid ((flatP (ps.take (k + 1))).length = (flatP (ps.take k)).length + ps[k].l.length) := Lib.hid (by rw [flatP_take ps k hlt, List.length_append])
      have hle2 := flatP_take_le ps (k + 1)
      rw [HN.out] at hle2
      unfold Part.val at hc
      generalize ps[k] = p at hc hsrc h0 HN hle2
      generalize (flatP (ps.take k)).length = s at HN hle2 hle ⊢
      have k0 : (0 : Int) ≤ (k : Int) := by omega
      have k1 : (k : Int) < (ps.length : Int) := by omega
      have s0 : ¬ (s : Int) + (p.l.length : Int) < 0 := by omega
      generalize p.l.length = z at *
      clear hsrc
      go_wp2
      go_roundw
      case rel => exact ⟨k + 1, by go_num, by omega, by rw [HN.out]; go_num, by first | trivial | rfl⟩
      case measure => simp [intOf]; omega
    · have HE : Hid ((flatP (ps.take k)).length = (flatP ps).length) := Lib.hid (by rw [List.take_of_length_le (by omega)])
      rw [HE.out]
      clear hle
      have hk2 : ¬ (k : Int) < (ps.length : Int) := by omega
      go_wp2_with fail
      refine (HG.out _).mono ?_
      rintro e w2 ⟨v2, rfl, hrow, hb⟩
      have HB2 := Lib.hid hb
      have HR2 := Lib.hid hrow
      clear hb hrow
      go_wp2
      go_loopw [6, 27] (fun nv v wr2 => ∃ k : Nat, v = .int .i64 (k : Int) ∧ k ≤ ps.length ∧ wr2.ownsRow w.heap.size 3 1 nv (flatP (ps.take k)).length (intz (flatP (ps.take k))) ∧ Hid (Below w.heap.size w wr2)) (fun _ v _ => ps.length - (intOf v).toNat)
      case atStart => exact ⟨0, rfl, Nat.zero_le _, HR2.out, HB2⟩
      case round =>
        obtain ⟨k, rfl, hk, hown, HB3⟩ := hrel
        have hle := flatP_take_le ps k
        obtain ⟨av, capv, rfl⟩ := row_form hown
        by_cases hlt : k < ps.length
        · obtain ⟨hc, hsrc, h0⟩ := HP.out _ HB3.out k _ (List.getElem?_eq_getElem hlt)
          have HF := Lib.hid (flatP_take ps k hlt)
          have hle2 := flatP_take_le ps (k + 1)
          rw [HF.out, List.length_append] at hle2
          unfold Part.val at hc
          have hsa := hsrc.1 (by rw [intz_len]; exact h0)
          generalize ps[k] = p at hc hsrc h0 HF hle2 hsa
          rw [hsa] at hc
          generalize flatP (ps.take k) = f at hown HF hle2 hle
          have HL : Hid (∀ q', (Value.slice av f.length capv).ownBlock = some q' → w.heap.size ≤ q' ∧ q' < wr.heap.size) := Lib.hid hown.lt
          have k0 : (0 : Int) ≤ (k : Int) := by omega
          have k1 : (k : Int) < (ps.length : Int) := by omega
          obtain ⟨a1, a2⟩ := app_facts1 f.length p.l.length (by omega)
          have hlen : (intz p.l).length = p.l.length * 1 := by rw [intz_len, Nat.mul_one]
          have HFl : Hid ((f ++ p.l).length = f.length + p.l.length) := Lib.hid (by rw [List.length_append])
          clear hsa
          go_wp2_with (at_builtin; refine wpList_append_own _ rfl _ _ 22 rfl w.heap.size 3 i0 (.int .i64 0) 1 8 Try.underlying22 hi hz0 hz1 hz2 rfl (by decide) _ _ _ rfl hown ⟨p.g, 0, none⟩ p.l.length p.c (intz p.l) rfl hlen (news_at hsrc) (one_cells p.l) a1 a2 HB3.out.size ?_; intro v' w7 hown' hgrow _)
          have HW7 : Hid (w7.ownsRow w.heap.size 3 1 v' (flatP (ps.take (k + 1))).length (intz (flatP (ps.take (k + 1))))) := Lib.hid (by rw [HF.out, HFl.out, intz_app]; exact hown')
          have HB7 : Hid (Below w.heap.size w w7) := Lib.hid (HB3.out.grown hgrow HB3.out.size (fun q e => (HL.out q e).1))
          clear hown' hgrow hown a1 a2 hlen hsrc hc
          go_wp2
          go_roundw
          case rel => exact ⟨k + 1, by go_num, by omega, HW7.out, HB7⟩
          case measure => simp [intOf]; omega
        · have HE2 : Hid (flatP (ps.take k) = flatP ps) := Lib.hid (by rw [List.take_of_length_le (by omega)])
          rw [HE2.out] at hown
          have hk3 : ¬ (k : Int) < (ps.length : Int) := by omega
          have HO := Lib.hid hown
          clear hown
          go_wp2
          (first | go_ret | go_ret2)
          exact ⟨_, rfl, by rw [HE2.out]; exact HO.out, HB3.out⟩
theorem ifTrace_no (v : Value) (l : List Int) (w W : World) (hr : w.ownsRow W.heap.size 3 1 v l.length (intz l)) (hl : l.length ≤ 1048576) (hb : Below W.heap.size W w) (h : traceZ l = false) :
    Calls Try.prog 60 #[v] w fun e w' => ∃ v, e = .returned (.tuple #[v, .bool false]) ∧ SeqOut (ints []) ([] : List Nat).length false W (.returned (.tuple #[v, .bool false])) w' := by
  obtain ⟨a, g, c, rfl, hs, hg, ho⟩ := seq_of_row hr
  have F := Lib.hid ((isTrace_f l false h hl).out w a g c hs)
  have HB := Lib.hid hb
  clear h hs hg ho hr hb
  go_enter Try.func60, Try.ntmps60
  go_wp2_with fail
  refine F.out.mono ?_
  rintro e w1 ⟨rfl, hb⟩
  have HB1 := Lib.hid (HB.out.trans (hb.mono HB.out.size))
  clear hb
  go_wp2
  (first | go_ret | go_ret2)
  exact ⟨_, rfl, seq_no _ _ HB1.out⟩
theorem joinTraces_no1 (a1 a2 : Option Addr) (g1 g2 c1 c2 : Nat) (la lb : List Int) (up : Int) (w : World) (hs1 : SrcV w a1 g1 (intz la)) (hs2 : SrcV w a2 g2 (intz lb)) (hl1 : la.length ≤ 1048576) (hl2 : lb.length ≤ 1048576) (h1 : traceZ la = false) :
    Calls Try.prog 40 #[.slice a1 la.length c1, .int .i64 up, .slice a2 lb.length c2] w (SeqOut (ints []) ([] : List Nat).length false w) := by
  have F1 := isTrace_f la false h1 hl1
  have HS1 := Lib.hid hs1
  have HS2 := Lib.hid hs2
  clear hs1 hs2 h1
  go_enter Try.func40, Try.ntmps40
  go_wp2_with fail
  refine (F1.out _ _ _ _ HS1.out).mono ?_
  rintro e w1 ⟨rfl, hb⟩
  have HB := Lib.hid hb
  have HS2 := Lib.hid (HS2.out.below hb)
  clear hb
  go_wp2
  (first | go_ret | go_ret2)
  exact seq_no _ _ (by first | exact HB.out | exact HB.out.alloc HB.out.size _)
theorem joinTraces_no2 (a1 a2 : Option Addr) (g1 g2 c1 c2 : Nat) (la lb : List Int) (up : Int) (w : World) (hs1 : SrcV w a1 g1 (intz la)) (hs2 : SrcV w a2 g2 (intz lb)) (hl1 : la.length ≤ 1048576) (hl2 : lb.length ≤ 1048576) (h1 : traceZ la = true) (h2 : traceZ lb = false) :
    Calls Try.prog 40 #[.slice a1 la.length c1, .int .i64 up, .slice a2 lb.length c2] w (SeqOut (ints []) ([] : List Nat).length false w) := by
  have F1 := isTrace_f la true h1 hl1
  have F2 := isTrace_f lb false h2 hl2
  have HS1 := Lib.hid hs1
  have HS2 := Lib.hid hs2
  clear hs1 hs2 h1 h2
  go_enter Try.func40, Try.ntmps40
  go_wp2_with fail
  refine (F1.out _ _ _ _ HS1.out).mono ?_
  rintro e w1 ⟨rfl, hb⟩
  have HB := Lib.hid hb
  have HS2 := Lib.hid (HS2.out.below hb)
  clear hb
  go_wp2_with fail
  refine (F2.out _ _ _ _ HS2.out).mono ?_
  rintro e w2 ⟨rfl, hb⟩
  have HB := Lib.hid (HB.out.trans (hb.mono HB.out.size))
  clear hb
  go_wp2
  (first | go_ret | go_ret2)
  exact seq_no _ _ (by first | exact HB.out | exact HB.out.alloc HB.out.size _)
theorem sJoinTraces_no1 (a1 a2 : Option Addr) (g1 g2 c1 c2 : Nat) (la lb : List Int) (up : Int) (w : World) (hs1 : SrcV w a1 g1 (intz la)) (hs2 : SrcV w a2 g2 (intz lb)) (hl1 : la.length ≤ 1048576) (hl2 : lb.length ≤ 1048576) (h1 : traceZ la = false) :
    Calls Try.prog 39 #[.slice a1 la.length c1, .int .i64 up, .slice a2 lb.length c2] w (SeqOut (ints []) ([] : List Nat).length false w) := by
  have F1 := sTrace_f la false h1 hl1
  have HS1 := Lib.hid hs1
  have HS2 := Lib.hid hs2
  clear hs1 hs2 h1
  go_enter Try.func39, Try.ntmps39
  go_wp2_with fail
  refine (F1.out _ _ _ _ HS1.out).mono ?_
  rintro e w1 ⟨rfl, hb⟩
  have HB := Lib.hid hb
  have HS2 := Lib.hid (HS2.out.below hb)
  clear hb
  go_wp2
  (first | go_ret | go_ret2)
  exact seq_no _ _ (by first | exact HB.out | exact HB.out.alloc HB.out.size _)
theorem sJoinTraces_no2 (a1 a2 : Option Addr) (g1 g2 c1 c2 : Nat) (la lb : List Int) (up : Int) (w : World) (hs1 : SrcV w a1 g1 (intz la)) (hs2 : SrcV w a2 g2 (intz lb)) (hl1 : la.length ≤ 1048576) (hl2 : lb.length ≤ 1048576) (h1 : traceZ la = true) (h2 : traceZ lb = false) :
    Calls Try.prog 39 #[.slice a1 la.length c1, .int .i64 up, .slice a2 lb.length c2] w (SeqOut (ints []) ([] : List Nat).length false w) := by
  have F1 := sTrace_f la true h1 hl1
  have F2 := sTrace_f lb false h2 hl2
  have HS1 := Lib.hid hs1
  have HS2 := Lib.hid hs2
  clear hs1 hs2 h1 h2
  go_enter Try.func39, Try.ntmps39
  go_wp2_with fail
  refine (F1.out _ _ _ _ HS1.out).mono ?_
  rintro e w1 ⟨rfl, hb⟩
  have HB := Lib.hid hb
  have HS2 := Lib.hid (HS2.out.below hb)
  clear hb
  go_wp2_with fail
  refine (F2.out _ _ _ _ HS2.out).mono ?_
  rintro e w2 ⟨rfl, hb⟩
  have HB := Lib.hid (HB.out.trans (hb.mono HB.out.size))
  clear hb
  go_wp2
  (first | go_ret | go_ret2)
  exact seq_no _ _ (by first | exact HB.out | exact HB.out.alloc HB.out.size _)
theorem sJoinTraces_no3 (a1 a2 : Option Addr) (g1 g2 c1 c2 : Nat) (la lb : List Int) (up : Int) (w : World) (hs1 : SrcV w a1 g1 (intz la)) (hs2 : SrcV w a2 g2 (intz lb)) (hl1 : la.length ≤ 1048576) (hl2 : lb.length ≤ 1048576) (h1 : traceZ la = true) (h2 : traceZ lb = true) (h3 : okLen up = false) :
    Calls Try.prog 39 #[.slice a1 la.length c1, .int .i64 up, .slice a2 lb.length c2] w (SeqOut (ints []) ([] : List Nat).length false w) := by
  have F1 := sTrace_f la true h1 hl1
  have F2 := sTrace_f lb true h2 hl2
  have F3 := sLen_f up false h3
  have HS1 := Lib.hid hs1
  have HS2 := Lib.hid hs2
  clear hs1 hs2 h1 h2 h3
  go_enter Try.func39, Try.ntmps39
  go_wp2_with fail
  refine (F1.out _ _ _ _ HS1.out).mono ?_
  rintro e w1 ⟨rfl, hb⟩
  have HB := Lib.hid hb
  have HS2 := Lib.hid (HS2.out.below hb)
  clear hb
  go_wp2_with fail
  refine (F2.out _ _ _ _ HS2.out).mono ?_
  rintro e w2 ⟨rfl, hb⟩
  have HB := Lib.hid (HB.out.trans (hb.mono HB.out.size))
  clear hb
  go_wp2_with fail
  refine (F3.out _).mono ?_
  rintro e w3 ⟨rfl, hww⟩
  obtain rfl := hww.symm
  go_wp2
  (first | go_ret | go_ret2)
  exact seq_no _ _ (by first | exact HB.out | exact HB.out.alloc HB.out.size _)
theorem cell_three_new (w : World) (x y z : Value) (t : TypeId) : (w.alloc (.cells #[x, y, z] t)).cell? ⟨w.heap.size, 0, none⟩ = some x ∧ (w.alloc (.cells #[x, y, z] t)).cell? ⟨w.heap.size, 1, none⟩ = some y ∧ (w.alloc (.cells #[x, y, z] t)).cell? ⟨w.heap.size, 2, none⟩ = some z := by
  rw [World.cell?_alloc_new, World.cell?_alloc_new, World.cell?_alloc_new]
  exact ⟨rfl, rfl, rfl⟩
/-- The three parts that are joined. -/
def threeParts (a1 a2 : Option Addr) (g1 g2 c1 c2 : Nat) (ma mb : List Nat) (up : Int) (s : Nat) : List Part := [⟨a1, g1, c1, zs ma⟩, ⟨some ⟨s, 0, none⟩, s, 1, [up]⟩, ⟨a2, g2, c2, zs mb⟩]
theorem three_flat (a1 a2 : Option Addr) (g1 g2 c1 c2 : Nat) (ma mb : List Nat) (up : Int) (s : Nat) : flatP (threeParts a1 a2 g1 g2 c1 c2 ma mb up s) = zs ma ++ up :: zs mb := by simp [flatP, threeParts]
theorem three_at {w : World} {a1 a2 : Option Addr} {g1 g2 c1 c2 : Nat} {ma mb : List Nat} {up : Int} (h1 : SrcV w a1 g1 (ints ma)) (h2 : SrcV w a2 g2 (ints mb)) (n1 : 0 < ma.length) (n2 : 0 < mb.length) :
    PartsAt ((w.alloc (.cells #[.int .i64 up] 3)).alloc (.cells #[.slice a1 ma.length c1, .slice (some ⟨w.heap.size, 0, none⟩) 1 1, .slice a2 mb.length c2] 22)) (w.heap.size + 1) (threeParts a1 a2 g1 g2 c1 c2 ma mb up w.heap.size) := by
  have e0 : (w.alloc (.cells #[.int .i64 up] 3)).heap.size = w.heap.size + 1 := by simp
  obtain ⟨q0, q1, q2⟩ := cell_three_new (w.alloc (.cells #[.int .i64 up] 3)) (.slice a1 ma.length c1) (.slice (some ⟨w.heap.size, 0, none⟩) 1 1) (.slice a2 mb.length c2) 22
  rw [e0] at q0 q1 q2
  have r1 := (h1.alloc (.cells #[.int .i64 up] 3)).alloc (.cells #[.slice a1 ma.length c1, .slice (some ⟨w.heap.size, 0, none⟩) 1 1, .slice a2 mb.length c2] 22)
  have r2 := (h2.alloc (.cells #[.int .i64 up] 3)).alloc (.cells #[.slice a1 ma.length c1, .slice (some ⟨w.heap.size, 0, none⟩) 1 1, .slice a2 mb.length c2] 22)
  have r3 : SrcV (w.alloc (.cells #[.int .i64 up] 3)) (some ⟨w.heap.size, 0, none⟩) w.heap.size (intz [up]) := ⟨fun _ => rfl, fun j v hv => by
    have := cell_one_new w (.int .i64 up) 3 j v hv
    rwa [Addr.add_lit, Nat.zero_add] at this⟩
  have r4 := r3.alloc (.cells #[.slice a1 ma.length c1, .slice (some ⟨w.heap.size, 0, none⟩) 1 1, .slice a2 mb.length c2] 22)
  intro k p hp
  match k, hp with
  | 0, hp =>
    obtain rfl := Option.some.inj (show some (Part.mk a1 g1 c1 (zs ma)) = some p from hp)
    exact ⟨by rw [q0, Part.val, zs_len], by rw [zs_ints]; exact r1, by rw [zs_len]; exact n1⟩
  | 1, hp =>
    obtain rfl := Option.some.inj (show some (Part.mk (some ⟨w.heap.size, 0, none⟩) w.heap.size 1 [up]) = some p from hp)
    exact ⟨q1, r4, by simp⟩
  | 2, hp =>
    obtain rfl := Option.some.inj (show some (Part.mk a2 g2 c2 (zs mb)) = some p from hp)
    exact ⟨by rw [q2, Part.val, zs_len], by rw [zs_ints]; exact r2, by rw [zs_len]; exact n2⟩
  | k + 3, hp => simp [threeParts] at hp
theorem three_bad {ma mb : List Nat} {up : Int} (h : okLen up = false) : traceZ (zs ma ++ up :: zs mb) = false := by
  cases h2 : traceZ (zs ma ++ up :: zs mb)
  · rfl
  · simp only [traceZ, Bool.and_eq_true, List.all_eq_true] at h2
    have := h2.2.2 up (by simp)
    rw [h] at this
    cases this
theorem three_zs (ma mb : List Nat) (u : Nat) : zs ma ++ (u : Int) :: zs mb = zs (ma ++ u :: mb) := by simp [zs]
set_option maxHeartbeats 4000000 in
theorem joinTraces_go (a1 a2 : Option Addr) (g1 g2 c1 c2 : Nat) (ma mb : List Nat) (up : Int) (w : World) (hs1 : SrcV w a1 g1 (ints ma)) (hs2 : SrcV w a2 g2 (ints mb)) (hm1 : IsTr ma) (hm2 : IsTr mb) (Q : Ending → World → Prop)
    (hQ : ∀ v W, W.ownsRow w.heap.size 3 1 v (zs ma ++ up :: zs mb).length (intz (zs ma ++ up :: zs mb)) → Below w.heap.size w W → Calls Try.prog 60 #[v] W fun e w' => ∃ v ok, e = .returned (.tuple #[v, .bool ok]) ∧ Q (.returned (.tuple #[v, .bool ok])) w') :
    Calls Try.prog 40 #[.slice a1 ma.length c1, .int .i64 up, .slice a2 mb.length c2] w Q := by
  have F1 := isTrace_m ma hm1
  have F2 := isTrace_m mb hm2
  have n1 : 0 < ma.length := by have := hm1.odd; omega
  have n2 : 0 < mb.length := by have := hm2.odd; omega
  have l1 := hm1.len
  have l2 := hm2.len
  have HS1 := Lib.hid fun W hb => hs1.below (w' := W) hb
  have HS2 := Lib.hid fun W hb => hs2.below (w' := W) hb
  have HQ := Lib.hid hQ
  clear hs1 hs2 hm1 hm2 hQ
  go_enter Try.func40, Try.ntmps40
  go_wp2_with fail
  refine (F1.out _ _ _ _ (HS1.out _ (Below.refl _ _))).mono ?_
  rintro e w1 ⟨rfl, hb⟩
  have HB := Lib.hid hb
  clear hb
  go_wp2_with fail
  refine (F2.out _ _ _ _ (HS2.out _ HB.out)).mono ?_
  rintro e w2 ⟨rfl, hb⟩
  have HB2 := Lib.hid (HB.out.trans (hb.mono HB.out.size))
  clear hb HB
  have HC := Lib.hid (concat_any (w2.heap.size + 1) 3 (threeParts a1 a2 g1 g2 c1 c2 ma mb up w2.heap.size) _ (three_at (c1 := c1) (c2 := c2) (up := up) (HS1.out _ HB2.out) (HS2.out _ HB2.out) n1 n2) (by simp [threeParts]) (by rw [three_flat]; simp only [List.length_append, List.length_cons, zs_len]; omega) (by rw [three_flat]; simp only [List.length_append, List.length_cons, zs_len]; omega))
  rw [three_flat] at HC
  go_wp2_with fail
  refine HC.out.mono ?_
  rintro e w3 ⟨v3, rfl, hrow, hb⟩
  have HB3 : Hid (Below w.heap.size w w3) := Lib.hid (by
    have h1 := (HB2.out.alloc HB2.out.size (.cells #[.int .i64 up] 3))
    have h2 := h1.alloc h1.size (.cells #[.slice a1 ma.length c1, .slice (some ⟨w2.heap.size, 0, none⟩) 1 1, .slice a2 mb.length c2] 22)
    exact h2.trans (hb.mono h2.size))
  have HR3 : Hid (w3.ownsRow w.heap.size 3 1 v3 (zs ma ++ up :: zs mb).length (intz (zs ma ++ up :: zs mb))) := Lib.hid (row_mono3 hrow (by
    have h1 := (HB2.out.alloc HB2.out.size (.cells #[.int .i64 up] 3))
    have h2 := h1.alloc h1.size (.cells #[.slice a1 ma.length c1, .slice (some ⟨w2.heap.size, 0, none⟩) 1 1, .slice a2 mb.length c2] 22)
    exact h2.size))
  clear hrow hb
  go_wp2_with fail
  refine (HQ.out _ _ HR3.out HB3.out).mono ?_
  rintro e w4 ⟨v, ok, rfl, hq⟩
  have HF := Lib.hid hq
  clear hq
  go_wp2
  exact HF.out
set_option maxHeartbeats 4000000 in
theorem sJoinTraces_yes (a1 a2 : Option Addr) (g1 g2 c1 c2 : Nat) (ma mb : List Nat) (up : Nat) (w : World) (hs1 : SrcV w a1 g1 (ints ma)) (hs2 : SrcV w a2 g2 (ints mb)) (hm1 : IsTr ma) (hm2 : IsTr mb) (hu0 : 1 ≤ up) (hu : up ≤ 999) :
    Calls Try.prog 39 #[.slice a1 ma.length c1, .int .i64 (up : Int), .slice a2 mb.length c2] w (FinOut (ma ++ up :: mb) w) := by
  obtain ⟨i0, hi, hz0, hz1, hz2⟩ := info_parts infoIntI
  have F1 := sTrace_m ma hm1
  have F2 := sTrace_m mb hm2
  have F3 := sLen_f (up : Int) true (okLen_of up hu0 hu)
  have n1 : 0 < ma.length := by have := hm1.odd; omega
  have n2 : 0 < mb.length := by have := hm2.odd; omega
  have l1 := hm1.len
  have l2 := hm2.len
  have HS1 := Lib.hid fun W hb => hs1.below (w' := W) hb
  have HS2 := Lib.hid fun W hb => hs2.below (w' := W) hb
  obtain rfl := hs2.1 (by rw [ints_len]; exact n2)
  have HL : Hid ((ma ++ up :: mb).length = ma.length + 1 + mb.length) := Lib.hid (by simp; omega)
  have HI : Hid (ints (ma ++ up :: mb) = ints ma ++ [.int .i64 (up : Int)] ++ ints mb) := Lib.hid (by simp [ints])
  clear hs1 hs2 hm1 hm2
  go_enter Try.func39, Try.ntmps39
  go_wp2_with fail
  refine (F1.out _ _ _ _ (HS1.out _ (Below.refl _ _))).mono ?_
  rintro e w1 ⟨rfl, hb⟩
  have HB := Lib.hid hb
  clear hb
  go_wp2_with fail
  refine (F2.out _ _ _ _ (HS2.out _ HB.out)).mono ?_
  rintro e w2 ⟨rfl, hb⟩
  have HB2 := Lib.hid (HB.out.trans (hb.mono HB.out.size))
  clear hb HB
  go_wp2_with fail
  refine (F3.out _).mono ?_
  rintro e w3 ⟨rfl, hww⟩
  obtain rfl := hww.symm
  go_wp2_with fail
  have HO := Lib.hid (own_any a1 g1 c1 (zs ma) w2 (by rw [zs_ints]; exact HS1.out _ HB2.out) (by rw [zs_len]; exact n1) (by rw [zs_len]; omega))
  rw [zs_len, zs_ints] at HO
  refine HO.out.mono ?_
  rintro e w4 ⟨v4, rfl, hrow, hb⟩
  have HB4 := Lib.hid (HB2.out.trans (hb.mono HB2.out.size))
  have hown := row_mono3 hrow HB2.out.size
  obtain ⟨av, capv, rfl⟩ := row_form hown
  have HL4 : Hid (∀ q', (Value.slice av ma.length capv).ownBlock = some q' → w.heap.size ≤ q' ∧ q' < w4.heap.size) := Lib.hid hown.lt
  obtain ⟨a5, a6⟩ := app_facts1 ma.length 1 (by omega)
  obtain ⟨a7, a8⟩ := app_facts1 (ma.length + 1) mb.length (by omega)
  have hlen : (ints mb).length = mb.length * 1 := by rw [ints_len, Nat.mul_one]
  have hsz := HB4.out.size
  have hone : ∀ u ∈ ints mb, u.oneCell' = true := fun u hu => by rw [← zs_ints] at hu; exact one_cells _ u hu
  clear hrow hb
  go_wp2_with (at_builtin; first | (refine wpList_append_own _ rfl _ _ 22 rfl w.heap.size 3 i0 (.int .i64 0) 1 8 Try.underlying22 hi hz0 hz1 hz2 rfl (by decide) _ _ _ rfl (hown.alloc _) ⟨w4.heap.size, 0, none⟩ 1 1 [.int .i64 (up : Int)] rfl rfl (cell_one_new _ _ _) (by simp [Value.oneCell']) a5 a6 (Nat.le_trans hsz (below_alloc w4 _).size) ?_; intro v' w7 hown' hgrow _; have HB7 : Hid (Below w.heap.size w w7) := Lib.hid ((HB4.out.alloc HB4.out.size _).grown hgrow (Nat.le_trans HB4.out.size (below_alloc w4 _).size) (fun q e => (HL4.out q e).1)); have hsb := HS2.out w7 HB7.out; have hsz7 := HB7.out.size; have HL7 : Hid (∀ q', v'.ownBlock = some q' → w.heap.size ≤ q' ∧ q' < w7.heap.size) := Lib.hid hown'.lt; clear hgrow hown) | (refine wpList_append_own _ rfl _ _ 22 rfl w.heap.size 3 i0 (.int .i64 0) 1 8 Try.underlying22 hi hz0 hz1 hz2 rfl (by decide) _ _ _ rfl hown' ⟨g2, 0, none⟩ mb.length c2 (ints mb) rfl hlen (news_at hsb) hone a7 a8 hsz7 ?_; intro v8 w8 hown8 hgrow8 _))
  have HB8 : Hid (Below w.heap.size w w8) := Lib.hid (HB7.out.grown hgrow8 HB7.out.size (fun q e => (HL7.out q e).1))
  have HR8 : Hid (w8.ownsRow w.heap.size 3 1 v8 (ma ++ up :: mb).length (ints (ma ++ up :: mb))) := Lib.hid (by rw [HL.out, HI.out]; exact hown8)
  clear hown8 hgrow8 hown' a5 a6 a7 a8
  go_wp2_with fail
  refine (sMade_out _ (ma ++ up :: mb) _ w HR8.out (by rw [HL.out]; omega) HB8.out).mono ?_
  rintro e w9 ⟨v, ok, rfl, hf⟩
  have HFo := Lib.hid hf
  clear hf
  go_wp2
  (first | go_ret | go_ret2)
  exact HFo.out
theorem joinTraces_both (la : List Int) (up : Int) (lb : List Int) (hl1 : la.length ≤ 1048576) (hl2 : lb.length ≤ 1048576) (hi1 : InI la) (hi2 : InI lb) (wu : (Lit.int .i64 up).wf = true) : ∃ (l : List Nat) (R1 : Bool), l.length ≤ 1048576 ∧
    Hid (∀ W a1 g1 c1, SrcV W a1 g1 (intz la) → ∀ a2 g2 c2, SrcV W a2 g2 (intz lb) → Calls Try.prog 39 #[.slice a1 la.length c1, .int .i64 up, .slice a2 lb.length c2] W (SeqOut (ints l) l.length R1 W)) ∧
    Hid (∀ W a1 g1 c1, SrcV W a1 g1 (intz la) → ∀ a2 g2 c2, SrcV W a2 g2 (intz lb) → Calls Try.prog 40 #[.slice a1 la.length c1, .int .i64 up, .slice a2 lb.length c2] W (SeqOut (ints l) l.length R1 W)) := by
  cases h1 : traceZ la
  · exact ⟨[], false, by simp, fun W a1 g1 c1 hs1 a2 g2 c2 hs2 => sJoinTraces_no1 a1 a2 g1 g2 c1 c2 la lb up W hs1 hs2 hl1 hl2 h1, fun W a1 g1 c1 hs1 a2 g2 c2 hs2 => joinTraces_no1 a1 a2 g1 g2 c1 c2 la lb up W hs1 hs2 hl1 hl2 h1⟩
  · cases h2 : traceZ lb
    · exact ⟨[], false, by simp, fun W a1 g1 c1 hs1 a2 g2 c2 hs2 => sJoinTraces_no2 a1 a2 g1 g2 c1 c2 la lb up W hs1 hs2 hl1 hl2 h1 h2, fun W a1 g1 c1 hs1 a2 g2 c2 hs2 => joinTraces_no2 a1 a2 g1 g2 c1 c2 la lb up W hs1 hs2 hl1 hl2 h1 h2⟩
    · cases h3 : okLen up
      · refine ⟨[], false, by simp, fun W a1 g1 c1 hs1 a2 g2 c2 hs2 => sJoinTraces_no3 a1 a2 g1 g2 c1 c2 la lb up W hs1 hs2 hl1 hl2 h1 h2 h3, ?_⟩
        obtain ⟨ma, rfl, hm1⟩ := traceZ_nat h1
        obtain ⟨mb, rfl, hm2⟩ := traceZ_nat h2
        have l1 := hm1.len
        have l2 := hm2.len
        rw [zs_len, zs_len, zs_ints, zs_ints]
        intro W a1 g1 c1 hs1 a2 g2 c2 hs2
        exact joinTraces_go a1 a2 g1 g2 c1 c2 ma mb up W hs1 hs2 hm1 hm2 _ fun v W' hr hb => (ifTrace_no v _ W' W hr (by simp only [List.length_append, List.length_cons, zs_len]; omega) hb (three_bad h3)).mono fun e w' ⟨v, h, hq⟩ => ⟨v, false, h, hq⟩
      · obtain ⟨u, rfl, hu0, hu⟩ := okLen_nat h3
        obtain ⟨ma, rfl, hm1⟩ := traceZ_nat h1
        obtain ⟨mb, rfl, hm2⟩ := traceZ_nat h2
        have l1 := hm1.len
        have l2 := hm2.len
        have hlm : (ma ++ u :: mb).length ≤ 1048576 := by simp only [List.length_append, List.length_cons]; omega
        rw [zs_len, zs_len, zs_ints, zs_ints]
        refine ⟨(finR (ma ++ u :: mb)).1, (finR (ma ++ u :: mb)).2, finR_len hlm, fun W a1 g1 c1 hs1 a2 g2 c2 hs2 => sJoinTraces_yes a1 a2 g1 g2 c1 c2 ma mb u W hs1 hs2 hm1 hm2 hu0 hu, fun W a1 g1 c1 hs1 a2 g2 c2 hs2 => ?_⟩
        refine joinTraces_go a1 a2 g1 g2 c1 c2 ma mb (u : Int) W hs1 hs2 hm1 hm2 _ fun v W' hr hb => ?_
        rw [three_zs, zs_len, zs_ints] at hr
        exact ifTrace_out v (ma ++ u :: mb) W' W hr hlm hb
end Go.Proofs.Ytgfmcpipbmnagaa
