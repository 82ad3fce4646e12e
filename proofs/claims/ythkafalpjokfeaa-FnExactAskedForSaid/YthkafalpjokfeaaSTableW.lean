/-
  Contracts of the model's l2Place, l2Table, IsTable. Used by the claims on chapter 2.
-/
import Derived.Test.YthkafalpjokfeaaSignW
import Derived.Test.YthkafalpjokfeaaListW
import Derived.Test.YthkafalpjokfeaaTableL
namespace Go.Proofs.Ythkafalpjokfeaa
open Go.RowKit
set_option linter.unusedVariables false

/-- A contract's value, said otherwise. -/
theorem val_eq {P : Program} {f : FuncId} {args : Array Value} {w : World} {v v' : Value} {R : World → Prop} (h : Calls P f args w fun e w' => e = .returned v ∧ R w') (e : v = v') : Calls P f args w fun e w' => e = .returned v' ∧ R w' := e ▸ h

theorem place_any (a : Option Addr) (b o c : Nat) (xs : List ByteArray) (s : ByteArray) (w : World) (h : Src w a b o xs) (hl : xs.length ≤ 1048576) :
    Calls Try.prog 106 #[.slice a xs.length c, .string s] w fun e w' => e = .returned (.int .i64 (idx (placeB xs s))) ∧ w' = w := by
  have HS := Lib.hid h
  clear h
  go_enter Try.func106, Try.ntmps106
  go_wp2
  go_loop [5] (fun i => ∃ k : Nat, k ≤ xs.length ∧ i = .int .i64 k ∧ Hid (∀ j, j < k → xs[j]? ≠ some s)) (fun i => xs.length - (intOf i).toNat)
  case atStart => exact ⟨0, Nat.zero_le _, rfl, Lib.hid (fun j hj => absurd hj (by omega))⟩
  case round =>
    obtain ⟨k, hk, rfl, HN⟩ := hrel
    by_cases hlt : k < xs.length
    · obtain rfl := HS.out.1 (by omega)
      have hcell := HS.out.2 k _ (List.getElem?_eq_getElem hlt)
      have HX := Lib.hid (List.getElem?_eq_getElem hlt)
      generalize xs[k] = x at hcell HX
      by_cases he : x = s
      · have heq : (x.toList == s.toList) = true := by rw [he]; simp
        have HR : Hid (placeB xs s = some k) := Lib.hid (placeB_some.2 ⟨by rw [HX.out, he], HN.out⟩)
        clear he
        go_wp2
        go_ret
        exact ⟨by rw [HR.out]; rfl, rfl⟩
      · have heq : (x.toList == s.toList) = false := beq_false_of_ne (fun e => he (bl_inj (by rw [ByteArray.toList_eq, ByteArray.toList_eq] at e; exact e)))
        have HN2 : Hid (∀ j, j < k + 1 → xs[j]? ≠ some s) := Lib.hid (fun j hj => by
          by_cases e : j = k
          · subst e; rw [HX.out]; intro e2; exact he (Option.some.inj e2)
          · exact HN.out j (by omega))
        clear he
        go_wp2
        go_round
        case rel => exact ⟨k + 1, by omega, by go_num, HN2⟩
        case measure => simp [intOf]; omega
    · have HR : Hid (placeB xs s = none) := Lib.hid (placeB_none.2 (fun hm => by
        obtain ⟨j, hj⟩ := List.mem_iff_getElem?.1 hm
        exact HN.out j (by have := (List.getElem?_eq_some_iff.1 hj).1; omega) hj))
      go_wp2
      go_ret
      exact ⟨by rw [HR.out]; rfl, rfl⟩

set_option maxHeartbeats 1000000 in
theorem stable_any (a : Option Addr) (b o c : Nat) (xs : List ByteArray) (w : World) (h : ListIn w a b o xs) :
    Calls Try.prog 64 #[.agg #[.slice a xs.length c]] w fun e w' => e = .returned (.bool (tableB xs)) ∧ Below w.heap.size w w' := by
  have hl := h.len
  have HS := Lib.hid h
  have HIn := Lib.hid fun w => in_any xs.length 1 10 w
  clear h
  by_cases hz : 1 ≤ xs.length ∧ xs.length ≤ 10
  · have HD : Hid (∀ w, Calls Try.prog 81 #[.int .i64 xs.length, .int .i64 1, .int .i64 10] w fun e w' => e = .returned (.bool true) ∧ w' = w) := Lib.hid fun w => (HIn.out w).mono fun e w' ⟨h1, h2⟩ => ⟨by rw [h1]; congr 2; simp; omega, h2⟩
    have HZ := Lib.hid hz
    clear hz
    go_enter Try.func64, Try.ntmps64
    go_wp2_with fail
    refine (HD.out _).mono ?_
    rintro e w' ⟨rfl, rfl⟩
    go_wp2
    have hb0 := below_alloc w (.cells #[.slice a xs.length c] 29)
    have hc0 := cell_new w (.slice a xs.length c) 29
    generalize (w.alloc (.cells #[.slice a xs.length c] 29)) = W0 at hb0 hc0 ⊢
    have HS0 := Lib.hid (HS.out.below hb0)
    have HB0 := Lib.hid hb0
    clear hb0
    go_loopw [3] (fun i wr => ∃ k : Nat, k ≤ xs.length ∧ i = .int .i64 k ∧ Hid (∃ q, wr = W0.drewN q) ∧ Hid (∀ x ∈ xs.take k, marksL (bl x) = true) ∧ Hid (∀ j x, j < k → xs[j]? = some x → placeB xs x = some j))
      (fun i _ => xs.length - (intOf i).toNat)
    case atStart => exact ⟨0, Nat.zero_le _, rfl, Lib.hid ⟨0, rfl⟩, Lib.hid (by simp), Lib.hid (fun j x hj => absurd hj (by omega))⟩
    case round =>
      obtain ⟨k, hk, rfl, HW, HM, HP⟩ := hrel
      by_cases hlt : k < xs.length
      · obtain rfl := HS.out.src.1 (by omega)
        have hcell : wr.cell? ⟨b, o + k, none⟩ = some (.string xs[k]) := by obtain ⟨q, rfl⟩ := HW.out; exact HS0.out.src.2 k _ (List.getElem?_eq_getElem hlt)
        have hc1 : wr.cell? ⟨w.heap.size, 0, none⟩ = some (.slice (some ⟨b, o, none⟩) xs.length c) := by obtain ⟨q, rfl⟩ := HW.out; exact hc0
        have HX := Lib.hid (List.getElem?_eq_getElem hlt)
        have hxm := HS.out.texts _ (List.getElem_mem hlt)
        generalize xs[k] = x at hcell HX hxm
        have HA := Lib.hid fun w => smarks_any x w (by unfold maxLen; omega)
        have HPl := Lib.hid fun q => place_any (some ⟨b, o, none⟩) b o c xs x (wr.drewN q) (by obtain ⟨q, rfl⟩ := HW.out; exact HS0.out.src) hl
        clear hxm
        have i0 : (0 : Int) ≤ (k : Int) := by omega
        have i1 : (k : Int) < (xs.length : Int) := by omega
        by_cases hmk : marksL (bl x) = true
        · have HA2 : Hid (∀ w, Calls Try.prog 70 #[.string x, .int .i64 1, .int .i64 5] w fun e w' => e = .returned (.bool true) ∧ ∃ q, w' = w.drewN q) := Lib.hid fun w => (HA.out w).mono fun e w' ⟨h1, h2⟩ => ⟨by rw [h1, hmk], h2⟩
          have HN : Hid (∀ x ∈ xs.take (k + 1), marksL (bl x) = true) := Lib.hid (fun y hy => by
            rw [List.take_add_one, HX.out] at hy
            rcases List.mem_append.1 hy with h | h
            · exact HM.out y h
            · simp at h; subst h; exact hmk)
          clear hmk
          by_cases hpl : placeB xs x = some k
          · have HP2 : Hid (∀ j x, j < k + 1 → xs[j]? = some x → placeB xs x = some j) := Lib.hid (fun j y hj hy => by
              by_cases e : j = k
              · subst e
                rw [HX.out] at hy
                cases hy
                exact hpl
              · exact HP.out j y (by omega) hy)
            have HPl2 := Lib.hid fun q => val_eq (v' := .int .i64 k) (HPl.out q) (by rw [hpl]; rfl)
            clear hpl
            go_wp2
            go_quiet (first | (go_at_call 70; exact Calls.quiet_of (HA2.out _)) | (go_at_call 106; exact Calls.quiet_of_same (HPl2.out _)))
            go_wp2
            go_roundw
            case rel => exact ⟨k + 1, by omega, by go_num, Lib.hid (by obtain ⟨q, rfl⟩ := HW.out; exact ⟨q + nq, by rw [World.drewN_drewN]⟩), HN, HP2⟩
            case measure => simp [intOf]; omega
          · have HR : Hid (tableB xs = false) := Lib.hid (tableB_no (fun h => hpl (placeB_at h.2.2 HX.out)))
            obtain ⟨z, hz⟩ : ∃ z, z = idx (placeB xs x) := ⟨_, rfl⟩
            have hzk : (z == (k : Int)) = false := beq_false_of_ne (fun e => hpl (idx_eq (by rw [← hz, e])))
            have HPl2 := Lib.hid fun q => val_eq (v' := .int .i64 z) (HPl.out q) (by rw [hz])
            clear hpl hz
            go_wp2
            go_quiet (first | (go_at_call 70; exact Calls.quiet_of (HA2.out _)) | (go_at_call 106; exact Calls.quiet_of_same (HPl2.out _)))
            go_wp2
            go_ret
            exact ⟨by rw [HR.out]; rfl, by obtain ⟨q, rfl⟩ := HW.out; exact HB0.out.trans ⟨rfl, rfl, rfl, Nat.le_refl _, fun _ _ => rfl⟩⟩
        · have HA2 : Hid (∀ w, Calls Try.prog 70 #[.string x, .int .i64 1, .int .i64 5] w fun e w' => e = .returned (.bool false) ∧ ∃ q, w' = w.drewN q) := Lib.hid fun w => (HA.out w).mono fun e w' ⟨h1, h2⟩ => ⟨by rw [h1]; simp [hmk], h2⟩
          have HR : Hid (tableB xs = false) := Lib.hid (tableB_no (fun h => hmk (h.2.1 x (List.mem_of_getElem? HX.out))))
          clear hmk
          go_wp2
          go_quiet (first | (go_at_call 70; exact Calls.quiet_of (HA2.out _)) | (go_at_call 106; exact Calls.quiet_of_same (HPl.out _)))
          go_wp2
          go_ret
          exact ⟨by rw [HR.out]; rfl, by obtain ⟨q, rfl⟩ := HW.out; exact HB0.out.trans ⟨rfl, rfl, rfl, Nat.le_refl _, fun _ _ => rfl⟩⟩
      · have hc1 : wr.cell? ⟨w.heap.size, 0, none⟩ = some (.slice a xs.length c) := by obtain ⟨q, rfl⟩ := HW.out; exact hc0
        have HR : Hid (tableB xs = true) := Lib.hid ((tableB_iff xs).2 ⟨HZ.out, (by have := HM.out; rwa [List.take_of_length_le (by omega)] at this), nodup_places (fun j x hx => HP.out j x (by have := (List.getElem?_eq_some_iff.1 hx).1; omega) hx)⟩)
        go_wp2
        go_ret
        exact ⟨by rw [HR.out]; rfl, by obtain ⟨q, rfl⟩ := HW.out; exact HB0.out.trans ⟨rfl, rfl, rfl, Nat.le_refl _, fun _ _ => rfl⟩⟩
  · have HD : Hid (∀ w, Calls Try.prog 81 #[.int .i64 xs.length, .int .i64 1, .int .i64 10] w fun e w' => e = .returned (.bool false) ∧ w' = w) := Lib.hid fun w => (HIn.out w).mono fun e w' ⟨h1, h2⟩ => ⟨by rw [h1]; congr 2; simp; omega, h2⟩
    have HR : Hid (tableB xs = false) := Lib.hid (tableB_no (fun h => hz h.1))
    clear hz
    go_enter Try.func64, Try.ntmps64
    go_wp2_with fail
    refine (HD.out _).mono ?_
    rintro e w' ⟨rfl, rfl⟩
    go_wp2
    go_ret
    exact ⟨by rw [HR.out]; rfl, below_alloc w _⟩
end Go.Proofs.Ythkafalpjokfeaa
