/-
  WayOfMessage of the model: both answer alike. Used by the claims on chapter 9.
-/
import Derived.Test.YtdphjnbelggcfaaWomW
import Derived.Test.YtdphjnbelggcfaaWyS
namespace Go.Proofs.Ytdphjnbelggcfaa
open Go.RowKit Go.Maps Go.WideMaps
set_option linter.unusedVariables false

set_option maxHeartbeats 4000000 in
set_option maxRecDepth 20000 in
theorem sWayOfMessage_any (a : Option Addr) (b o c : Nat) (xs : List ByteArray) (m : ByteArray) (w : World) (h : ListIn w a b o xs) (hms : m.size ≤ maxLen) :
    Calls Try.prog 41 #[.agg #[.slice a xs.length c], .string m] w fun e w' => e = .returned (.tuple #[.int .i64 ((wmR xs m : Nat) : Int), .bool (wmB xs m)]) ∧ Below w.heap.size w w' := by
  have hl := h.len
  have F1 := Lib.hid fun W hb => stable_any a b o c xs W (h.below (w' := W) hb)
  have HLi := Lib.hid h
  cases ht : tableB xs with
  | false =>
    have HB0 : Hid (wmB xs m = false) := Lib.hid (by unfold wmB; rw [ht]; rfl)
    have HR : Hid (wmR xs m = 0) := Lib.hid (by unfold wmR; rw [if_neg (by rw [HB0.out]; decide)])
    rw [ht] at F1
    rw [HB0.out]
    clear ht h
    go_enter Try.func41, Try.ntmps41
    go_wp2_with fail
    refine (F1.out _ (below_alloc _ _)).mono ?_
    rintro e w1 ⟨rfl, hb⟩
    have HB1 := Lib.hid ((below_alloc w (.cells #[.slice a xs.length c] 35)).trans (hb.mono (by simp)))
    clear hb
    go_wp2
    go_ret2
    exact ⟨by rw [HR.out]; rfl, HB1.out⟩
  | true =>
    rw [ht] at F1
    have hn := ((tableB_iff xs).1 ht).1
    have F3 := Lib.hid fun W => sMsg_any a b o c xs m W hn.1 hn.2 hms
    cases hm : msgL xs.length (bl m) with
    | false =>
      have HB0 : Hid (wmB xs m = false) := Lib.hid (by unfold wmB; rw [hm, Bool.and_false])
      have HR : Hid (wmR xs m = 0) := Lib.hid (by unfold wmR; rw [if_neg (by rw [HB0.out]; decide)])
      rw [hm] at F3
      rw [HB0.out]
      clear ht h hm hn
      go_enter Try.func41, Try.ntmps41
      go_wp2_with fail
      refine (F1.out _ (below_alloc _ _)).mono ?_
      rintro e w1 ⟨rfl, hb⟩
      have HB1 := Lib.hid ((below_alloc w (.cells #[.slice a xs.length c] 35)).trans (hb.mono (by simp)))
      have hc1 := (hb.cell (p := ⟨w.heap.size, 0, none⟩) (by simp)).trans (cell_new w (.slice a xs.length c) 35)
      clear hb
      go_wp2_with fail
      refine (F3.out _).mono ?_
      rintro e w2 ⟨rfl, hb⟩
      have HB2 := Lib.hid (HB1.out.trans (hb.mono HB1.out.size))
      clear hb hc1
      go_wp2
      go_ret2
      exact ⟨by rw [HR.out]; rfl, HB2.out⟩
    | true =>
      have HB0 : Hid (wmB xs m = true) := Lib.hid (by unfold wmB; rw [ht, hm]; rfl)
      have HR : Hid (wmR xs m = (wf (mnL xs (bl m))).1) := Lib.hid (by unfold wmR; rw [if_pos HB0.out])
      rw [hm] at F3
      rw [HB0.out]
      obtain ⟨hm12, hsg⟩ := msg_signM hm
      rw [bl_len] at hm12
      have hn10 := hn.2
      have HMk := Lib.hid ((tableB_iff xs).1 ht).2.1
      have HG := Lib.hid fun (y : ByteArray) (W : World) (hy : marksL (bl y) = true) => sNode_any y W (noneT_marks hy)
      have HSg := Lib.hid hsg
      have HSu := Lib.hid fun (k : Nat) (u : UInt8) (hu : (bl m)[k]? = some u) => mn_succ (xs := xs) hu
      have HFin : Hid (mnL xs ((bl m).take m.size) = mnL xs (bl m)) := Lib.hid (by rw [← bl_len m, List.take_length])
      have HNd := Lib.hid (mn_nodes ht hsg)
      have HLe : Hid (∀ k, (wf (mnL xs ((bl m).take k))).2 ≤ 63 ∧ (wf (mnL xs ((bl m).take k))).1 ≤ 1512) := Lib.hid fun k => by
        have h1 := wf_le (mnL xs ((bl m).take k)) (mn_nodes ht (fun u hu => hsg u (List.mem_of_mem_take hu)))
        have h2 := mn_len xs ((bl m).take k)
        rw [List.length_take, bl_len] at h2
        omega
      obtain rfl := h.src.1 (by omega)
      clear ht hm hn hsg h
      go_enter Try.func41, Try.ntmps41
      go_wp2_with fail
      refine (F1.out _ (below_alloc _ _)).mono ?_
      rintro e w1 ⟨rfl, hb⟩
      have HB1 := Lib.hid ((below_alloc w (.cells #[.slice (some ⟨b, o, none⟩) xs.length c] 35)).trans (hb.mono (by simp)))
      have hc1 := (hb.cell (p := ⟨w.heap.size, 0, none⟩) (by simp)).trans (cell_new w (.slice (some ⟨b, o, none⟩) xs.length c) 35)
      clear hb
      go_wp2_with fail
      refine (F3.out _).mono ?_
      rintro e w2 ⟨rfl, hb⟩
      have HB2 := Lib.hid (HB1.out.trans (hb.mono HB1.out.size))
      have HC2 := Lib.hid ((hb.cell (World.block_lt_of_cell? _ _ hc1)).trans hc1)
      clear hb hc1
      go_wp2
      go_loopw [6, 7, 8] (fun sv lv v wr => ∃ k s z : Nat, v = .int .i64 (k : Int) ∧ sv = .int .i64 (s : Int) ∧ lv = .int .i64 (z : Int) ∧ k ≤ m.size ∧ Hid ((s, z) = wf (mnL xs ((bl m).take k))) ∧ Hid (wr.cell? ⟨w.heap.size, 0, none⟩ = some (.slice (some ⟨b, o, none⟩) xs.length c)) ∧ Hid (Below w.heap.size w wr)) (fun _ _ v _ => m.size - (intOf v).toNat)
      case atStart => exact ⟨0, 0, 0, rfl, rfl, rfl, Nat.zero_le _, Lib.hid (by simp [mnL, wf]), HC2, HB2⟩
      case round =>
        clear HC2 HB2
        obtain ⟨k, s, z, rfl, rfl, rfl, hk, HW, HCr, HBr⟩ := hrel
        have l1 := HCr.out
        by_cases hlt : k < m.size
        · have hkx : k + 1 ≤ m.size := hlt
          have j2 : (k : Int) + 1 ≤ 13 := by omega
          have j0 : (0 : Int) ≤ (k : Int) := by omega
          have j1 : (k : Int) < (m.size : Int) := by omega
          have hu := HSg.out _ (List.mem_of_getElem? (bl_at m k hlt))
          have HS := Lib.hid (HSu.out k _ (bl_at m k hlt))
          by_cases h32 : m[k] = 32
          · have t1 : ((m[k].toNat : Int) != 32) = false := by rw [h32]; rfl
            have t2 : ((m[k].toNat : Int) == 32) = true := by rw [h32]; rfl
            have HE : Hid ((s, z) = wf (mnL xs ((bl m).take (k + 1)))) := Lib.hid (by rw [HS.out, mnC, if_pos h32, List.append_nil]; exact HW.out)
            clear h32 hu hm12 hn10
            go_wp2
            go_roundw
            case rel => exact ⟨k + 1, s, z, by go_num, rfl, rfl, hkx, HE, HCr, HBr⟩
            case measure => simp [intOf]; omega
          · have hu3 : 97 ≤ m[k].toNat ∧ m[k].toNat < 97 + xs.length := by
              have := hu.resolve_left h32
              unfold inRow at this; simpa using this
            have t0 : ¬ m[k].toNat = 32 := fun e2 => h32 (UInt8.toNat_inj.1 (by rw [e2]; rfl))
            have t1 : ((m[k].toNat : Int) != 32) = true := by simp; omega
            have t2 : ((m[k].toNat : Int) == 32) = false := by simp; omega
            obtain ⟨i, hiu⟩ : ∃ i, m[k].toNat = i + 97 := ⟨m[k].toNat - 97, by omega⟩
            have hil : i < xs.length := by omega
            have hxi : xs[i]? = some xs[i] := List.getElem?_eq_getElem hil
            have hgd : xs.getD (m[k].toNat - 97) ⟨#[]⟩ = xs[i] := by rw [show m[k].toNat - 97 = i by omega, List.getD_eq_getElem?_getD, hxi]; rfl
            have hmy := HMk.out _ (List.getElem_mem hil)
            have HWn : Hid (wf (mnL xs ((bl m).take (k + 1))) = wst (s, z) (nd (bl xs[i]))) := Lib.hid (by rw [HS.out, mnC, if_neg h32, hgd, wf_snoc, ← HW.out])
            have d1 := (HLi.out.below HBr.out).src.2 i _ hxi
            have GY := Lib.hid fun W => HG.out xs[i] W hmy
            have hb63 : nd (bl xs[i]) ≤ 63 := nd_le (by rw [bl_len]; exact noneT_size (noneT_marks hmy))
            have hle := HLe.out k
            rw [← HW.out] at hle
            have hle2 := (HLe.out (k + 1)).2
            rw [HWn.out] at hle2
            have hz63 : z ≤ 63 := hle.1
            have hs1 : s ≤ 1512 := hle.2
            have GW := Lib.hid fun W => sWay_any z (nd (bl xs[i])) W hz63 hb63
            generalize xs[i] = y at *
            generalize nd (bl y) = v1 at *
            have e3 : (m[k].toNat : Int) - 97 = (i : Int) := by omega
            have i1 : (0 : Int) ≤ (i : Int) := by omega
            have i2 : (i : Int) < (xs.length : Int) := by omega
            have b5 : i ≤ 100000 := by omega
            have b6 : m[k].toNat ≤ 100000 := by omega
            unfold wst at hle2 HWn
            clear hu h32 hu3 t0 hiu hil hxi hgd hmy hle hm12 hn10
            by_cases hz : 0 < z
            · rw [if_pos hz] at hle2
              have HWn2 : Hid ((s + (wayN z v1).2, v1) = wf (mnL xs ((bl m).take (k + 1)))) := Lib.hid (by rw [HWn.out, if_pos hz])
              generalize (wayN z v1).2 = z2 at *
              simp only at hle2
              have q1 : (0 : Int) < (z : Int) := by omega
              have q2 : decide ((0 : Int) < (z : Int)) = true := decide_eq_true q1
              clear hz HWn
              obtain ⟨w5', w6'⟩ := wrap_few i b5
              obtain ⟨w7', w8'⟩ := wrap_few m[k].toNat b6
              clear b5 b6
              go_wp2
              go_quiet ((go_at_call 72; exact Calls.quiet_of_same (GY.out _)))
              clear w5' w6' w7' w8'
              go_wp2_with fail
              refine (GW.out _).mono ?_
              rintro e w3 ⟨rfl, rfl⟩
              go_wp2
              go_roundw
              case rel => exact ⟨k + 1, s + z2, v1, by go_num, by go_num, rfl, hkx, HWn2, Lib.hid HCr.out, Lib.hid (below_drewN' HBr.out)⟩
              case measure => simp [intOf]; omega
            · have HWn2 : Hid ((s, v1) = wf (mnL xs ((bl m).take (k + 1)))) := Lib.hid (by rw [HWn.out, if_neg hz])
              have hz0 : z = 0 := by omega
              clear HWn GW hle2 hz
              subst hz0
              obtain ⟨w5', w6'⟩ := wrap_few i b5
              obtain ⟨w7', w8'⟩ := wrap_few m[k].toNat b6
              clear b5 b6
              go_wp2
              go_quiet ((go_at_call 72; exact Calls.quiet_of_same (GY.out _)))
              clear w5' w6' w7' w8'
              go_wp2
              go_roundw
              case rel => exact ⟨k + 1, s, v1, by go_num, rfl, rfl, hkx, HWn2, Lib.hid HCr.out, Lib.hid (below_drewN' HBr.out)⟩
              case measure => simp [intOf]; omega
        · have HE : Hid (s = (wf (mnL xs (bl m))).1) := Lib.hid (by
            have : k = m.size := by omega
            subst this
            have := HW.out
            rw [HFin.out] at this
            rw [← this])
          go_wp2
          go_ret2
          exact ⟨by rw [HR.out, ← HE.out]; rfl, HBr.out⟩
theorem wayOfMessage_both (xs : List ByteArray) (m : ByteArray) (hl : xs.length ≤ 1048576) (ht : ∀ x ∈ xs, x.size ≤ 1048576) (hm : m.size ≤ 1048576) : ∃ (R0 : Int) (R1 : Bool),
    Hid (∀ W a b o c, ListIn W a b o xs → Calls Try.prog 41 #[.agg #[.slice a xs.length c], .string m] W fun e W' => e = .returned (.tuple #[.int .i64 R0, .bool R1]) ∧ Below W.heap.size W W') ∧
    Hid (∀ W a b o c, ListIn W a b o xs → Calls Try.prog 42 #[.agg #[.slice a xs.length c], .string m] W fun e W' => e = .returned (.tuple #[.int .i64 R0, .bool R1]) ∧ Below W.heap.size W W') :=
  ⟨_, _, fun W a b o c h => sWayOfMessage_any a b o c xs m W h (by unfold maxLen; omega), fun W a b o c h => wayOfMessage_any a b o c xs m W h (by unfold maxLen; omega)⟩
end Go.Proofs.Ytdphjnbelggcfaa
