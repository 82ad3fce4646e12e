/-
  The times of a signal: l5Exact of the model. Used by the claims on chapter 5.
-/
import Derived.Test.YtgfmcpipbmnagaaExW
namespace Go.Proofs.Ytgfmcpipbmnagaa
open Go.RowKit
set_option linter.unusedVariables false

theorem app_ints (n k : Nat) (h : n + k ≤ 1048576) : n + k ≤ maxLen ∧ (n + k) * 8 ≤ 140737488355328 := by
  unfold maxLen; omega
def exTo (l : Bs) (k : Nat) : List Nat := (rsTo l k).map Prod.snd
theorem exTo_succ {l : Bs} {k : Nat} {c : UInt8} (h : l[k]? = some c) : exTo l (k + 1) = exTo l k ++ (if (bfMk l k && isMk c) = true then [1] else []) ++ [sg c] := by
  unfold exTo
  rw [rsTo_succ h]
  simp only [List.map_append]
  split <;> simp
theorem exTo_len (l : Bs) (k : Nat) : (exTo l k).length ≤ 2 * k := by unfold exTo; rw [List.length_map]; exact rsTo_len l k
theorem u8_is {c : UInt8} {n : Nat} (hn : n < 256) : c = UInt8.ofNat n ↔ c.toNat = n := by
  constructor
  · rintro rfl; rw [UInt8.toNat_ofNat']; omega
  · intro h; apply UInt8.toNat_inj.1; rw [UInt8.toNat_ofNat']; omega
set_option maxHeartbeats 8000000 in
set_option maxRecDepth 8000 in
theorem exact_any (s : ByteArray) (w : World) (ps : List Bs) (hps : pieces (bl s) = some ps) :
    Calls Try.prog 51 #[.string s] w fun e w' => ∃ v, e = .returned v ∧ w'.ownsRow w.heap.size 3 1 v (exTo (bl s) s.size).length (ints (exTo (bl s) s.size)) ∧ Below w.heap.size w w' := by
  obtain ⟨i0, hi, hz0, hz1, hz2⟩ := info_parts infoIntI
  have HSg := Lib.hid (pieces_signs hps)
  have hs := sig_short hps
  have M0 : Hid ((w.alloc (Obj.cells #[] 3)).ownsRow w.heap.size 3 1 (.slice (some ⟨w.heap.size, 0, none⟩) 0 0) ([] : List Nat).length (ints [])) := Lib.hid (World.ownsRow_made (base := w.heap.size) w #[] 0 (Nat.le_refl _) (by unfold maxLen; omega) rfl)
  clear hps
  go_enter Try.func51, Try.ntmps51
  go_wp2
  go_loopw [3, 4] (fun pv v wr => ∃ k : Nat, v = .int .i64 (k : Int) ∧ k ≤ s.size ∧ wr.ownsRow w.heap.size 3 1 pv (exTo (bl s) k).length (ints (exTo (bl s) k)) ∧ Hid (Below w.heap.size w wr)) (fun _ v _ => s.size - (intOf v).toNat)
  case atStart => exact ⟨0, rfl, Nat.zero_le _, M0.out, Lib.hid (below_alloc _ _)⟩
  case round =>
    obtain ⟨k, rfl, hk, hown, HB⟩ := hrel
    obtain ⟨av, capv, rfl⟩ := row_form hown
    by_cases hlt : k < s.size
    · have HBy := Lib.hid (bl_at s k hlt)
      have HX := Lib.hid (exTo_succ HBy.out)
      have hln := exTo_len (bl s) k
      have HBl : Hid (s[k] = 46 ∨ s[k] = 45 ∨ s[k] = 32 ∨ s[k] = 47) := Lib.hid (by
        rcases HSg.out _ (List.mem_of_getElem? HBy.out) with h | h | h
        · rw [mk_iff] at h
          simp only [decide_eq_true_eq] at h
          rcases h with h | h
          · exact .inl (UInt8.toNat_inj.1 h)
          · exact .inr (.inl (UInt8.toNat_inj.1 h))
        · exact .inr (.inr (.inl h))
        · exact .inr (.inr (.inr h)))
      have k0 : (0 : Int) ≤ (k : Int) := by omega
      have k1 : (k : Int) < (s.size : Int) := by omega
      have hsz := HB.out.size
      have HXl : ∀ (a b : List Nat), a ++ b = a ++ b := fun _ _ => rfl
      clear HXl
      have HBfd : Hid (bfMk (bl s) k = (decide (0 < k) && isMk ((bl s).getD (k - 1) 0))) := Lib.hid rfl
      generalize hrs : exTo (bl s) k = rs at hown HX hln
      have HOl : Hid (∀ q, (Value.slice av rs.length capv).ownBlock = some q → w.heap.size ≤ q ∧ q < wr.heap.size) := Lib.hid hown.lt
      obtain ⟨a1, a2⟩ := app_ints rs.length 1 (by omega)
      obtain ⟨a3, a4⟩ := app_ints (rs.length + 1) 1 (by omega)
      have HK2 : Hid (k + 1 ≤ s.size ∧ s.size - (k + 1) < s.size - k) := Lib.hid (by omega)
      have hk72 : k ≤ 72 := by omega
      clear hrs hln
      rcases HBl.out with hc | hc | hc | hc
      · have e46 : ((s[k].toNat : Int) == 46) = true := by rw [hc]; rfl
        have e45 : ((s[k].toNat : Int) == 45) = false := by rw [hc]; rfl
        rw [hc] at HX
        have HMk : Hid (isMk (46 : UInt8) = true ∧ sg (46 : UInt8) = 1) := Lib.hid ⟨by decide, by decide⟩
        clear hc
        rcases Nat.eq_zero_or_pos k with h0 | h0
        · subst h0
          have HN : Hid (exTo (bl s) (0 + 1) = rs ++ [1]) := Lib.hid (by rw [HX.out, HBfd.out, HMk.out.2]; simp)
          clear HX HBfd
          go_wp2_with (at_builtin; refine wpList_append_own _ rfl _ _ 22 rfl w.heap.size 3 i0 (.int .i64 0) 1 8 Try.underlying22 hi hz0 hz1 hz2 rfl (by decide) _ _ _ rfl (hown.alloc _) ⟨wr.heap.size, 0, none⟩ 1 1 [.int .i64 1] rfl rfl (cell_one_new _ _ _) (by simp [Value.oneCell']) a1 a2 (Nat.le_trans HB.out.size (below_alloc wr _).size) ?_; intro v6 w6 hownN hgrow _; have hownw6 : w6.ownsRow w.heap.size 3 1 v6 (rs.length + 1) (ints (rs ++ [1])) := (by rw [ints_snoc]; exact hownN); have HBw6 : Hid (Below w.heap.size w w6) := Lib.hid ((HB.out.alloc HB.out.size _).grown hgrow (Nat.le_trans HB.out.size (below_alloc wr _).size) (fun q e => (HOl.out q e).1)); clear hownN hgrow hown)
          have HW : Hid (w6.ownsRow w.heap.size 3 1 v6 (exTo (bl s) (0 + 1)).length (ints (exTo (bl s) (0 + 1)))) := Lib.hid (by
            have e : (rs ++ [1]).length = rs.length + 1 := by simp
            rw [HN.out, e]; exact hownw6)
          clear hownw6 a1 a2 a3 a4 hsz
          go_wp2
          go_roundw
          case rel => exact ⟨0 + 1, by go_num, HK2.out.1, HW.out, HBw6⟩
          case measure => simp [intOf]; omega
        · obtain ⟨j, hj⟩ : ∃ j, k = j + 1 := ⟨k - 1, by omega⟩
          have hj2 : j < s.size := by omega
          have HD : Hid (bfMk (bl s) k = isMk s[j]) := Lib.hid (by
            rw [HBfd.out]
            subst hj
            simp [bl_at s j hj2])
          have j0 : (0 : Int) ≤ (j : Int) := by omega
          have j1 : (j : Int) < (s.size : Int) := by omega
          have j2 : (0 : Int) < (k : Int) := by omega
          have j3 : (k : Int) - 1 = (j : Int) := by omega
          have hj6 : j ≤ 1000000 := by omega
          have j4 : wrap64 ((k : Int) - 1) = (j : Int) := by rw [j3]; exact nat_wrap (by omega)
          have j5 : IntKind.i64.wrap ((k : Int) - 1) = (j : Int) := by rw [j3]; exact nat_wrap2 (by omega)
          clear hj HBfd
          by_cases hd : s[j] = 46 ∨ s[j] = 45
          · have HN : Hid (exTo (bl s) (k + 1) = rs ++ [1] ++ [1]) := Lib.hid (by
              have e : isMk s[j] = true := by rcases hd with h | h <;> rw [h] <;> decide
              rw [HX.out, HD.out, e, HMk.out.1, HMk.out.2]; simp)
            clear HX HD
            rcases hd with hd | hd
            · have f46 : ((s[j].toNat : Int) == 46) = true := by rw [hd]; rfl
              have f45 : ((s[j].toNat : Int) == 45) = false := by rw [hd]; rfl
              clear hd
              go_wp2_with (at_builtin; first | (refine wpList_append_own _ rfl _ _ 22 rfl w.heap.size 3 i0 (.int .i64 0) 1 8 Try.underlying22 hi hz0 hz1 hz2 rfl (by decide) _ _ _ rfl (hown.alloc _) ⟨wr.heap.size, 0, none⟩ 1 1 [.int .i64 1] rfl rfl (cell_one_new _ _ _) (by simp [Value.oneCell']) a1 a2 (Nat.le_trans HB.out.size (below_alloc wr _).size) ?_; intro v5 w5 hownN hgrow _; have hownw5 : w5.ownsRow w.heap.size 3 1 v5 (rs.length + 1) (ints (rs ++ [1])) := (by rw [ints_snoc]; exact hownN); have HBw5 : Hid (Below w.heap.size w w5) := Lib.hid ((HB.out.alloc HB.out.size _).grown hgrow (Nat.le_trans HB.out.size (below_alloc wr _).size) (fun q e => (HOl.out q e).1)); clear hownN hgrow hown; obtain ⟨av5, capv5, rfl⟩ := row_form hownw5; have HOl5 : Hid (∀ q, (Value.slice av5 (rs.length + 1) capv5).ownBlock = some q → w.heap.size ≤ q ∧ q < w5.heap.size) := Lib.hid hownw5.lt) | (refine wpList_append_own _ rfl _ _ 22 rfl w.heap.size 3 i0 (.int .i64 0) 1 8 Try.underlying22 hi hz0 hz1 hz2 rfl (by decide) _ _ _ rfl (hownw5.alloc _) ⟨w5.heap.size, 0, none⟩ 1 1 [.int .i64 1] rfl rfl (cell_one_new _ _ _) (by simp [Value.oneCell']) a3 a4 (Nat.le_trans HBw5.out.size (below_alloc w5 _).size) ?_; intro v6 w6 hownN hgrow _; have hownw6 : w6.ownsRow w.heap.size 3 1 v6 (rs.length + 1 + 1) (ints (rs ++ [1] ++ [1])) := (by rw [ints_snoc]; exact hownN); have HBw6 : Hid (Below w.heap.size w w6) := Lib.hid ((HBw5.out.alloc HBw5.out.size _).grown hgrow (Nat.le_trans HBw5.out.size (below_alloc w5 _).size) (fun q e => (HOl5.out q e).1)); clear hownN hgrow hownw5))
              have HW : Hid (w6.ownsRow w.heap.size 3 1 v6 (exTo (bl s) (k + 1)).length (ints (exTo (bl s) (k + 1)))) := Lib.hid (by
                have e : (rs ++ [1] ++ [1]).length = rs.length + 1 + 1 := by simp
                rw [HN.out, e]; exact hownw6)
              clear hownw6 a1 a2 a3 a4 hsz j4 j5 j3 j2
              go_wp2
              go_roundw
              case rel => exact ⟨k + 1, by go_num, HK2.out.1, HW.out, HBw6⟩
              case measure => simp [intOf]; omega
            · have f46 : ((s[j].toNat : Int) == 46) = false := by rw [hd]; rfl
              have f45 : ((s[j].toNat : Int) == 45) = true := by rw [hd]; rfl
              clear hd
              go_wp2_with (at_builtin; first | (refine wpList_append_own _ rfl _ _ 22 rfl w.heap.size 3 i0 (.int .i64 0) 1 8 Try.underlying22 hi hz0 hz1 hz2 rfl (by decide) _ _ _ rfl (hown.alloc _) ⟨wr.heap.size, 0, none⟩ 1 1 [.int .i64 1] rfl rfl (cell_one_new _ _ _) (by simp [Value.oneCell']) a1 a2 (Nat.le_trans HB.out.size (below_alloc wr _).size) ?_; intro v5 w5 hownN hgrow _; have hownw5 : w5.ownsRow w.heap.size 3 1 v5 (rs.length + 1) (ints (rs ++ [1])) := (by rw [ints_snoc]; exact hownN); have HBw5 : Hid (Below w.heap.size w w5) := Lib.hid ((HB.out.alloc HB.out.size _).grown hgrow (Nat.le_trans HB.out.size (below_alloc wr _).size) (fun q e => (HOl.out q e).1)); clear hownN hgrow hown; obtain ⟨av5, capv5, rfl⟩ := row_form hownw5; have HOl5 : Hid (∀ q, (Value.slice av5 (rs.length + 1) capv5).ownBlock = some q → w.heap.size ≤ q ∧ q < w5.heap.size) := Lib.hid hownw5.lt) | (refine wpList_append_own _ rfl _ _ 22 rfl w.heap.size 3 i0 (.int .i64 0) 1 8 Try.underlying22 hi hz0 hz1 hz2 rfl (by decide) _ _ _ rfl (hownw5.alloc _) ⟨w5.heap.size, 0, none⟩ 1 1 [.int .i64 1] rfl rfl (cell_one_new _ _ _) (by simp [Value.oneCell']) a3 a4 (Nat.le_trans HBw5.out.size (below_alloc w5 _).size) ?_; intro v6 w6 hownN hgrow _; have hownw6 : w6.ownsRow w.heap.size 3 1 v6 (rs.length + 1 + 1) (ints (rs ++ [1] ++ [1])) := (by rw [ints_snoc]; exact hownN); have HBw6 : Hid (Below w.heap.size w w6) := Lib.hid ((HBw5.out.alloc HBw5.out.size _).grown hgrow (Nat.le_trans HBw5.out.size (below_alloc w5 _).size) (fun q e => (HOl5.out q e).1)); clear hownN hgrow hownw5))
              have HW : Hid (w6.ownsRow w.heap.size 3 1 v6 (exTo (bl s) (k + 1)).length (ints (exTo (bl s) (k + 1)))) := Lib.hid (by
                have e : (rs ++ [1] ++ [1]).length = rs.length + 1 + 1 := by simp
                rw [HN.out, e]; exact hownw6)
              clear hownw6 a1 a2 a3 a4 hsz j4 j5 j3 j2
              go_wp2
              go_roundw
              case rel => exact ⟨k + 1, by go_num, HK2.out.1, HW.out, HBw6⟩
              case measure => simp [intOf]; omega
          · have HN : Hid (exTo (bl s) (k + 1) = rs ++ [1]) := Lib.hid (by
              have e : isMk s[j] = false := by
                cases h : isMk s[j]
                · rfl
                · simp only [isMk, Bool.or_eq_true, beq_iff_eq] at h; exact absurd h hd
              rw [HX.out, HD.out, e, HMk.out.2]; simp)
            have f46 : ((s[j].toNat : Int) == 46) = false := beq_false_of_ne (fun e => hd (.inl (UInt8.toNat_inj.1 (by have : (46 : UInt8).toNat = 46 := rfl; omega))))
            have f45 : ((s[j].toNat : Int) == 45) = false := beq_false_of_ne (fun e => hd (.inr (UInt8.toNat_inj.1 (by have : (45 : UInt8).toNat = 45 := rfl; omega))))
            clear hd HX HD
            go_wp2_with (at_builtin; refine wpList_append_own _ rfl _ _ 22 rfl w.heap.size 3 i0 (.int .i64 0) 1 8 Try.underlying22 hi hz0 hz1 hz2 rfl (by decide) _ _ _ rfl (hown.alloc _) ⟨wr.heap.size, 0, none⟩ 1 1 [.int .i64 1] rfl rfl (cell_one_new _ _ _) (by simp [Value.oneCell']) a1 a2 (Nat.le_trans HB.out.size (below_alloc wr _).size) ?_; intro v6 w6 hownN hgrow _; have hownw6 : w6.ownsRow w.heap.size 3 1 v6 (rs.length + 1) (ints (rs ++ [1])) := (by rw [ints_snoc]; exact hownN); have HBw6 : Hid (Below w.heap.size w w6) := Lib.hid ((HB.out.alloc HB.out.size _).grown hgrow (Nat.le_trans HB.out.size (below_alloc wr _).size) (fun q e => (HOl.out q e).1)); clear hownN hgrow hown)
            have HW : Hid (w6.ownsRow w.heap.size 3 1 v6 (exTo (bl s) (k + 1)).length (ints (exTo (bl s) (k + 1)))) := Lib.hid (by
              have e : (rs ++ [1]).length = rs.length + 1 := by simp
              rw [HN.out, e]; exact hownw6)
            clear hownw6 a1 a2 a3 a4 hsz j4 j5 j3 j2
            go_wp2
            go_roundw
            case rel => exact ⟨k + 1, by go_num, HK2.out.1, HW.out, HBw6⟩
            case measure => simp [intOf]; omega
      · have e46 : ((s[k].toNat : Int) == 46) = false := by rw [hc]; rfl
        have e45 : ((s[k].toNat : Int) == 45) = true := by rw [hc]; rfl
        rw [hc] at HX
        have HMk : Hid (isMk (45 : UInt8) = true ∧ sg (45 : UInt8) = 3) := Lib.hid ⟨by decide, by decide⟩
        clear hc
        rcases Nat.eq_zero_or_pos k with h0 | h0
        · subst h0
          have HN : Hid (exTo (bl s) (0 + 1) = rs ++ [3]) := Lib.hid (by rw [HX.out, HBfd.out, HMk.out.2]; simp)
          clear HX HBfd
          go_wp2_with (at_builtin; refine wpList_append_own _ rfl _ _ 22 rfl w.heap.size 3 i0 (.int .i64 0) 1 8 Try.underlying22 hi hz0 hz1 hz2 rfl (by decide) _ _ _ rfl (hown.alloc _) ⟨wr.heap.size, 0, none⟩ 1 1 [.int .i64 3] rfl rfl (cell_one_new _ _ _) (by simp [Value.oneCell']) a1 a2 (Nat.le_trans HB.out.size (below_alloc wr _).size) ?_; intro v6 w6 hownN hgrow _; have hownw6 : w6.ownsRow w.heap.size 3 1 v6 (rs.length + 1) (ints (rs ++ [3])) := (by rw [ints_snoc]; exact hownN); have HBw6 : Hid (Below w.heap.size w w6) := Lib.hid ((HB.out.alloc HB.out.size _).grown hgrow (Nat.le_trans HB.out.size (below_alloc wr _).size) (fun q e => (HOl.out q e).1)); clear hownN hgrow hown)
          have HW : Hid (w6.ownsRow w.heap.size 3 1 v6 (exTo (bl s) (0 + 1)).length (ints (exTo (bl s) (0 + 1)))) := Lib.hid (by
            have e : (rs ++ [3]).length = rs.length + 1 := by simp
            rw [HN.out, e]; exact hownw6)
          clear hownw6 a1 a2 a3 a4 hsz
          go_wp2
          go_roundw
          case rel => exact ⟨0 + 1, by go_num, HK2.out.1, HW.out, HBw6⟩
          case measure => simp [intOf]; omega
        · obtain ⟨j, hj⟩ : ∃ j, k = j + 1 := ⟨k - 1, by omega⟩
          have hj2 : j < s.size := by omega
          have HD : Hid (bfMk (bl s) k = isMk s[j]) := Lib.hid (by
            rw [HBfd.out]
            subst hj
            simp [bl_at s j hj2])
          have j0 : (0 : Int) ≤ (j : Int) := by omega
          have j1 : (j : Int) < (s.size : Int) := by omega
          have j2 : (0 : Int) < (k : Int) := by omega
          have j3 : (k : Int) - 1 = (j : Int) := by omega
          have hj6 : j ≤ 1000000 := by omega
          have j4 : wrap64 ((k : Int) - 1) = (j : Int) := by rw [j3]; exact nat_wrap (by omega)
          have j5 : IntKind.i64.wrap ((k : Int) - 1) = (j : Int) := by rw [j3]; exact nat_wrap2 (by omega)
          clear hj HBfd
          by_cases hd : s[j] = 46 ∨ s[j] = 45
          · have HN : Hid (exTo (bl s) (k + 1) = rs ++ [1] ++ [3]) := Lib.hid (by
              have e : isMk s[j] = true := by rcases hd with h | h <;> rw [h] <;> decide
              rw [HX.out, HD.out, e, HMk.out.1, HMk.out.2]; simp)
            clear HX HD
            rcases hd with hd | hd
            · have f46 : ((s[j].toNat : Int) == 46) = true := by rw [hd]; rfl
              have f45 : ((s[j].toNat : Int) == 45) = false := by rw [hd]; rfl
              clear hd
              go_wp2_with (at_builtin; first | (refine wpList_append_own _ rfl _ _ 22 rfl w.heap.size 3 i0 (.int .i64 0) 1 8 Try.underlying22 hi hz0 hz1 hz2 rfl (by decide) _ _ _ rfl (hown.alloc _) ⟨wr.heap.size, 0, none⟩ 1 1 [.int .i64 1] rfl rfl (cell_one_new _ _ _) (by simp [Value.oneCell']) a1 a2 (Nat.le_trans HB.out.size (below_alloc wr _).size) ?_; intro v5 w5 hownN hgrow _; have hownw5 : w5.ownsRow w.heap.size 3 1 v5 (rs.length + 1) (ints (rs ++ [1])) := (by rw [ints_snoc]; exact hownN); have HBw5 : Hid (Below w.heap.size w w5) := Lib.hid ((HB.out.alloc HB.out.size _).grown hgrow (Nat.le_trans HB.out.size (below_alloc wr _).size) (fun q e => (HOl.out q e).1)); clear hownN hgrow hown; obtain ⟨av5, capv5, rfl⟩ := row_form hownw5; have HOl5 : Hid (∀ q, (Value.slice av5 (rs.length + 1) capv5).ownBlock = some q → w.heap.size ≤ q ∧ q < w5.heap.size) := Lib.hid hownw5.lt) | (refine wpList_append_own _ rfl _ _ 22 rfl w.heap.size 3 i0 (.int .i64 0) 1 8 Try.underlying22 hi hz0 hz1 hz2 rfl (by decide) _ _ _ rfl (hownw5.alloc _) ⟨w5.heap.size, 0, none⟩ 1 1 [.int .i64 3] rfl rfl (cell_one_new _ _ _) (by simp [Value.oneCell']) a3 a4 (Nat.le_trans HBw5.out.size (below_alloc w5 _).size) ?_; intro v6 w6 hownN hgrow _; have hownw6 : w6.ownsRow w.heap.size 3 1 v6 (rs.length + 1 + 1) (ints (rs ++ [1] ++ [3])) := (by rw [ints_snoc]; exact hownN); have HBw6 : Hid (Below w.heap.size w w6) := Lib.hid ((HBw5.out.alloc HBw5.out.size _).grown hgrow (Nat.le_trans HBw5.out.size (below_alloc w5 _).size) (fun q e => (HOl5.out q e).1)); clear hownN hgrow hownw5))
              have HW : Hid (w6.ownsRow w.heap.size 3 1 v6 (exTo (bl s) (k + 1)).length (ints (exTo (bl s) (k + 1)))) := Lib.hid (by
                have e : (rs ++ [1] ++ [3]).length = rs.length + 1 + 1 := by simp
                rw [HN.out, e]; exact hownw6)
              clear hownw6 a1 a2 a3 a4 hsz j4 j5 j3 j2
              go_wp2
              go_roundw
              case rel => exact ⟨k + 1, by go_num, HK2.out.1, HW.out, HBw6⟩
              case measure => simp [intOf]; omega
            · have f46 : ((s[j].toNat : Int) == 46) = false := by rw [hd]; rfl
              have f45 : ((s[j].toNat : Int) == 45) = true := by rw [hd]; rfl
              clear hd
              go_wp2_with (at_builtin; first | (refine wpList_append_own _ rfl _ _ 22 rfl w.heap.size 3 i0 (.int .i64 0) 1 8 Try.underlying22 hi hz0 hz1 hz2 rfl (by decide) _ _ _ rfl (hown.alloc _) ⟨wr.heap.size, 0, none⟩ 1 1 [.int .i64 1] rfl rfl (cell_one_new _ _ _) (by simp [Value.oneCell']) a1 a2 (Nat.le_trans HB.out.size (below_alloc wr _).size) ?_; intro v5 w5 hownN hgrow _; have hownw5 : w5.ownsRow w.heap.size 3 1 v5 (rs.length + 1) (ints (rs ++ [1])) := (by rw [ints_snoc]; exact hownN); have HBw5 : Hid (Below w.heap.size w w5) := Lib.hid ((HB.out.alloc HB.out.size _).grown hgrow (Nat.le_trans HB.out.size (below_alloc wr _).size) (fun q e => (HOl.out q e).1)); clear hownN hgrow hown; obtain ⟨av5, capv5, rfl⟩ := row_form hownw5; have HOl5 : Hid (∀ q, (Value.slice av5 (rs.length + 1) capv5).ownBlock = some q → w.heap.size ≤ q ∧ q < w5.heap.size) := Lib.hid hownw5.lt) | (refine wpList_append_own _ rfl _ _ 22 rfl w.heap.size 3 i0 (.int .i64 0) 1 8 Try.underlying22 hi hz0 hz1 hz2 rfl (by decide) _ _ _ rfl (hownw5.alloc _) ⟨w5.heap.size, 0, none⟩ 1 1 [.int .i64 3] rfl rfl (cell_one_new _ _ _) (by simp [Value.oneCell']) a3 a4 (Nat.le_trans HBw5.out.size (below_alloc w5 _).size) ?_; intro v6 w6 hownN hgrow _; have hownw6 : w6.ownsRow w.heap.size 3 1 v6 (rs.length + 1 + 1) (ints (rs ++ [1] ++ [3])) := (by rw [ints_snoc]; exact hownN); have HBw6 : Hid (Below w.heap.size w w6) := Lib.hid ((HBw5.out.alloc HBw5.out.size _).grown hgrow (Nat.le_trans HBw5.out.size (below_alloc w5 _).size) (fun q e => (HOl5.out q e).1)); clear hownN hgrow hownw5))
              have HW : Hid (w6.ownsRow w.heap.size 3 1 v6 (exTo (bl s) (k + 1)).length (ints (exTo (bl s) (k + 1)))) := Lib.hid (by
                have e : (rs ++ [1] ++ [3]).length = rs.length + 1 + 1 := by simp
                rw [HN.out, e]; exact hownw6)
              clear hownw6 a1 a2 a3 a4 hsz j4 j5 j3 j2
              go_wp2
              go_roundw
              case rel => exact ⟨k + 1, by go_num, HK2.out.1, HW.out, HBw6⟩
              case measure => simp [intOf]; omega
          · have HN : Hid (exTo (bl s) (k + 1) = rs ++ [3]) := Lib.hid (by
              have e : isMk s[j] = false := by
                cases h : isMk s[j]
                · rfl
                · simp only [isMk, Bool.or_eq_true, beq_iff_eq] at h; exact absurd h hd
              rw [HX.out, HD.out, e, HMk.out.2]; simp)
            have f46 : ((s[j].toNat : Int) == 46) = false := beq_false_of_ne (fun e => hd (.inl (UInt8.toNat_inj.1 (by have : (46 : UInt8).toNat = 46 := rfl; omega))))
            have f45 : ((s[j].toNat : Int) == 45) = false := beq_false_of_ne (fun e => hd (.inr (UInt8.toNat_inj.1 (by have : (45 : UInt8).toNat = 45 := rfl; omega))))
            clear hd HX HD
            go_wp2_with (at_builtin; refine wpList_append_own _ rfl _ _ 22 rfl w.heap.size 3 i0 (.int .i64 0) 1 8 Try.underlying22 hi hz0 hz1 hz2 rfl (by decide) _ _ _ rfl (hown.alloc _) ⟨wr.heap.size, 0, none⟩ 1 1 [.int .i64 3] rfl rfl (cell_one_new _ _ _) (by simp [Value.oneCell']) a1 a2 (Nat.le_trans HB.out.size (below_alloc wr _).size) ?_; intro v6 w6 hownN hgrow _; have hownw6 : w6.ownsRow w.heap.size 3 1 v6 (rs.length + 1) (ints (rs ++ [3])) := (by rw [ints_snoc]; exact hownN); have HBw6 : Hid (Below w.heap.size w w6) := Lib.hid ((HB.out.alloc HB.out.size _).grown hgrow (Nat.le_trans HB.out.size (below_alloc wr _).size) (fun q e => (HOl.out q e).1)); clear hownN hgrow hown)
            have HW : Hid (w6.ownsRow w.heap.size 3 1 v6 (exTo (bl s) (k + 1)).length (ints (exTo (bl s) (k + 1)))) := Lib.hid (by
              have e : (rs ++ [3]).length = rs.length + 1 := by simp
              rw [HN.out, e]; exact hownw6)
            clear hownw6 a1 a2 a3 a4 hsz j4 j5 j3 j2
            go_wp2
            go_roundw
            case rel => exact ⟨k + 1, by go_num, HK2.out.1, HW.out, HBw6⟩
            case measure => simp [intOf]; omega
      · have e46 : ((s[k].toNat : Int) == 46) = false := by rw [hc]; rfl
        have e45 : ((s[k].toNat : Int) == 45) = false := by rw [hc]; rfl
        have e32 : ((s[k].toNat : Int) == 32) = true := by rw [hc]; rfl
        rw [hc] at HX
        have HN : Hid (exTo (bl s) (k + 1) = rs ++ [3]) := Lib.hid (by rw [HX.out]; simp [isMk, sg])
        clear hc
        go_wp2_with (at_builtin; refine wpList_append_own _ rfl _ _ 22 rfl w.heap.size 3 i0 (.int .i64 0) 1 8 Try.underlying22 hi hz0 hz1 hz2 rfl (by decide) _ _ _ rfl (hown.alloc _) ⟨wr.heap.size, 0, none⟩ 1 1 [.int .i64 3] rfl rfl (cell_one_new _ _ _) (by simp [Value.oneCell']) a1 a2 (Nat.le_trans HB.out.size (below_alloc wr _).size) ?_; intro v6 w6 hownN hgrow _; have hownw6 : w6.ownsRow w.heap.size 3 1 v6 (rs.length + 1) (ints (rs ++ [3])) := (by rw [ints_snoc]; exact hownN); have HBw6 : Hid (Below w.heap.size w w6) := Lib.hid ((HB.out.alloc HB.out.size _).grown hgrow (Nat.le_trans HB.out.size (below_alloc wr _).size) (fun q e => (HOl.out q e).1)); clear hownN hgrow hown)
        have HW : Hid (w6.ownsRow w.heap.size 3 1 v6 (exTo (bl s) (k + 1)).length (ints (exTo (bl s) (k + 1)))) := Lib.hid (by
          have e : (rs ++ [3]).length = rs.length + 1 := by simp
          rw [HN.out, e]; exact hownw6)
        clear hownw6 a1 a2 a3 a4 hsz
        go_wp2
        go_roundw
        case rel => exact ⟨k + 1, by go_num, HK2.out.1, HW.out, HBw6⟩
        case measure => simp [intOf]; omega
      · have e46 : ((s[k].toNat : Int) == 46) = false := by rw [hc]; rfl
        have e45 : ((s[k].toNat : Int) == 45) = false := by rw [hc]; rfl
        have e32 : ((s[k].toNat : Int) == 32) = false := by rw [hc]; rfl
        rw [hc] at HX
        have HN : Hid (exTo (bl s) (k + 1) = rs ++ [7]) := Lib.hid (by rw [HX.out]; simp [isMk, sg])
        clear hc
        go_wp2_with (at_builtin; refine wpList_append_own _ rfl _ _ 22 rfl w.heap.size 3 i0 (.int .i64 0) 1 8 Try.underlying22 hi hz0 hz1 hz2 rfl (by decide) _ _ _ rfl (hown.alloc _) ⟨wr.heap.size, 0, none⟩ 1 1 [.int .i64 7] rfl rfl (cell_one_new _ _ _) (by simp [Value.oneCell']) a1 a2 (Nat.le_trans HB.out.size (below_alloc wr _).size) ?_; intro v6 w6 hownN hgrow _; have hownw6 : w6.ownsRow w.heap.size 3 1 v6 (rs.length + 1) (ints (rs ++ [7])) := (by rw [ints_snoc]; exact hownN); have HBw6 : Hid (Below w.heap.size w w6) := Lib.hid ((HB.out.alloc HB.out.size _).grown hgrow (Nat.le_trans HB.out.size (below_alloc wr _).size) (fun q e => (HOl.out q e).1)); clear hownN hgrow hown)
        have HW : Hid (w6.ownsRow w.heap.size 3 1 v6 (exTo (bl s) (k + 1)).length (ints (exTo (bl s) (k + 1)))) := Lib.hid (by
          have e : (rs ++ [7]).length = rs.length + 1 := by simp
          rw [HN.out, e]; exact hownw6)
        clear hownw6 a1 a2 a3 a4 hsz
        go_wp2
        go_roundw
        case rel => exact ⟨k + 1, by go_num, HK2.out.1, HW.out, HBw6⟩
        case measure => simp [intOf]; omega
    · obtain rfl : k = s.size := by omega
      have HO := Lib.hid hown
      clear hown
      go_wp2
      (first | go_ret | go_ret2)
      exact ⟨_, rfl, HO.out, HB.out⟩
end Go.Proofs.Ytgfmcpipbmnagaa
