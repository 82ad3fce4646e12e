/-
  l2Encode (the model's): the signal of a message. Used by the claims on chapter 2.
-/
import Derived.Test.YtekgmdigchobbaaDoorWordW
import Derived.Test.YtekgmdigchobbaaDoorMsgB
namespace Go.Proofs.YtekgmdigchobbaaDoor
open Go.RowKit
set_option linter.unusedVariables false

theorem catE (l : Bs) (b : UInt8) : ((⟨l.toArray⟩ : ByteArray) ++ ⟨#[b]⟩) = ⟨(l ++ [b]).toArray⟩ := by
  apply ByteArray.ext; apply Array.toList_inj.1; simp
theorem catB (l : Bs) (x : ByteArray) : ((⟨l.toArray⟩ : ByteArray) ++ x) = ⟨(l ++ bl x).toArray⟩ := by
  apply ByteArray.ext; apply Array.toList_inj.1; simp [bl]
theorem sizeE (l : Bs) : (⟨l.toArray⟩ : ByteArray).size = l.length := rfl
theorem msgGo_len {n : Nat} {m : Bs} (h : msgL n m = true) : m.length ≤ 12 := by simp only [msgL, Bool.and_eq_true, decide_eq_true_eq] at h; exact h.1
theorem msg_sign {n : Nat} {m : Bs} (h : msgL n m = true) : ∀ u ∈ m, u = 32 ∨ inRow n u = true := by
  have h2 : ∀ (l : Bs) (b : Bool), msgGo n b l = true → ∀ u ∈ l, u = 32 ∨ inRow n u = true := by
    intro l
    induction l with
    | nil => intro b _ u hu; simp at hu
    | cons c r ih =>
      intro b hg u hu
      by_cases hc : c = 32
      · subst hc
        rw [msgGo_space, Bool.and_eq_true] at hg
        rcases List.mem_cons.1 hu with e | e
        · exact .inl e
        · exact ih _ hg.2 u e
      · rw [msgGo_row hc, Bool.and_eq_true] at hg
        rcases List.mem_cons.1 hu with e | e
        · subst e; exact .inr hg.1
        · exact ih _ hg.2 u e
  simp only [msgL, Bool.and_eq_true, Bool.or_eq_true] at h
  rcases h.2 with h3 | h3
  · intro u hu; cases m with
    | nil => simp at hu
    | cons _ _ => simp at h3
  · exact h2 m true h3

set_option maxHeartbeats 4000000 in
set_option maxRecDepth 4000 in
theorem sEnc_any (a : Option Addr) (b o c : Nat) (xs : List ByteArray) (m : ByteArray) (w : World) (h : ListIn w a b o xs) (ht : tableB xs = true) (hm : msgL xs.length (bl m) = true) :
    Calls Tryd.prog 37 #[.agg #[.slice a xs.length c], .string m] w fun e w' => e = .returned (.string (ba (encL (xs.map bl) (bl m)))) ∧ Below w.heap.size w w' := by
  have hs : m.size ≤ 12 := by have := msgGo_len hm; rwa [bl_len] at this
  have hn := ((tableB_iff xs).1 ht).1
  have HS := Lib.hid h
  have HM := Lib.hid (msg_sign hm)
  have HX5 : Hid (∀ x ∈ xs, x.size ≤ 5) := fun x hx => by
    have := ((tableB_iff xs).1 ht).2.1 x hx
    simp only [marksL, Bool.and_eq_true, decide_eq_true_eq, bl_len] at this
    exact this.1.2
  have HL : Hid ((encL (xs.map bl) (bl m)).length ≤ 71) := Lib.hid (enc_len ht (by rw [List.length_map]; exact hm))
  clear h ht hm
  go_enter Tryd.func37, Tryd.ntmps37
  go_wp2
  have hb0 := below_alloc w (.cells #[.slice a xs.length c] 26)
  have hc0 := cell_new w (.slice a xs.length c) 26
  generalize (w.alloc (.cells #[.slice a xs.length c] 26)) = W0 at hb0 hc0 ⊢
  have HB0 := Lib.hid hb0
  have HC0 := Lib.hid hc0
  clear hb0 hc0
  go_loopw [5, 6] (fun sv v wr => ∃ (k : Nat) (l : Bs) (bq : Bool), v = .int .i64 k ∧ k ≤ m.size ∧ sv = .string ⟨l.toArray⟩ ∧ Hid (∃ q, wr = W0.drewN q) ∧ Hid ((bq = true ↔ k = 0 ∨ (bl m)[k - 1]? = some 32) ∧ l ++ encGo (xs.map bl) bq ((bl m).drop k) = encL (xs.map bl) (bl m))) (fun _ v _ => m.size - (intOf v).toNat)
  case atStart => exact ⟨0, [], true, rfl, Nat.zero_le _, rfl, Lib.hid ⟨0, rfl⟩, Lib.hid ⟨by simp, rfl⟩⟩
  case round =>
    obtain ⟨k, l, bq, rfl, hk, rfl, HW, HG⟩ := hrel
    have hc1 : wr.cell? ⟨w.heap.size, 0, none⟩ = some (.slice a xs.length c) := by obtain ⟨q, rfl⟩ := HW.out; exact HC0.out
    have HBw : Hid (Below w.heap.size w wr) := Lib.hid (by obtain ⟨q, rfl⟩ := HW.out; exact HB0.out.trans ⟨rfl, rfl, rfl, Nat.le_refl _, fun _ _ => rfl⟩)
    have hll : l.length ≤ 71 := by
      have h1 := congrArg List.length HG.out.2
      have h2 := HL.out
      rw [List.length_append] at h1; omega
    by_cases hlt : k < m.size
    · have HBy := Lib.hid (bl_at m k hlt)
      have HDr := Lib.hid (drop_at m k hlt)
      have HSg := Lib.hid (HM.out _ (List.mem_of_getElem? HBy.out))
      have i0 : (0 : Int) ≤ (k : Int) := by omega
      have i1 : (k : Int) < (m.size : Int) := by omega
      by_cases hc : m[k] = 32
      · have heq : ((m[k].toNat : Int) == 32) = true := by rw [hc]; rfl
        have HN : Hid ((true = true ↔ k + 1 = 0 ∨ (bl m)[k + 1 - 1]? = some 32) ∧ (l ++ [47]) ++ encGo (xs.map bl) true ((bl m).drop (k + 1)) = encL (xs.map bl) (bl m)) := Lib.hid (by
          refine ⟨⟨fun _ => .inr (by simp only [Nat.add_sub_cancel]; rw [HBy.out, hc]), fun _ => rfl⟩, ?_⟩
          rw [← HG.out.2, HDr.out, hc, encGo_space, List.append_assoc]; rfl)
        have HCt := Lib.hid (catE l 47)
        have p1 : ¬ 9223372036854775807 < l.length + 1 := by omega
        clear hc
        go_wp2
        go_roundw
        case rel => exact ⟨k + 1, l ++ [47], true, by go_num, by omega, by rw [HCt.out], HW, HN⟩
        case measure => simp [intOf]; omega
      · have heq : ((m[k].toNat : Int) == 32) = false := beq_false_of_ne (fun e => hc (u8_eq (k := 32) (by omega) (by decide)))
        have hrow : inRow xs.length m[k] = true := by
          rcases HSg.out with e | e
          · exact absurd e hc
          · exact e
        rw [inRow_iff, Bool.and_eq_true] at hrow
        simp only [decide_eq_true_eq] at hrow
        obtain ⟨i, hi⟩ : ∃ i, m[k].toNat = 97 + i := ⟨m[k].toNat - 97, by omega⟩
        have hil : i < xs.length := by omega
        obtain rfl := HS.out.src.1 (by omega)
        have hcell := (HS.out.below HBw.out).src.2 i _ (List.getElem?_eq_getElem hil)
        have HLk := Lib.hid (look_bl xs i _ (List.getElem?_eq_getElem hil) m[k] hi)
        have hx5 := HX5.out _ (List.getElem_mem hil)
        have HLn : Hid (∀ y : Bs, y ++ look (xs.map bl) m[k] ++ encGo (xs.map bl) false ((bl m).drop (k + 1)) = encL (xs.map bl) (bl m) → (false = true ↔ k + 1 = 0 ∨ (bl m)[k + 1 - 1]? = some 32) ∧ y ++ look (xs.map bl) m[k] ++ encGo (xs.map bl) false ((bl m).drop (k + 1)) = encL (xs.map bl) (bl m)) := fun y hy => ⟨⟨by simp, fun h => by
            rcases h with h | h
            · omega
            · simp only [Nat.add_sub_cancel] at h
              rw [HBy.out] at h
              exact absurd (Option.some.inj h) hc⟩, hy⟩
        have HTr : Hid (bq = true → l ++ look (xs.map bl) m[k] ++ encGo (xs.map bl) false ((bl m).drop (k + 1)) = encL (xs.map bl) (bl m)) := fun hb => by
          rw [← HG.out.2, hb, HDr.out, encGo_true _ hc, List.append_assoc]
        have HFa : Hid (bq = false → (l ++ [32]) ++ look (xs.map bl) m[k] ++ encGo (xs.map bl) false ((bl m).drop (k + 1)) = encL (xs.map bl) (bl m)) := fun hb => by
          rw [← HG.out.2, hb, HDr.out, encGo_first _ hc, encGo_true _ hc]; simp
        rw [HLk.out] at HLn HTr HFa
        generalize xs[i] = x at hcell HLk hx5 HLn HTr HFa
        have q1 : IntKind.i64.wrap (m[k].toNat : Int) = (m[k].toNat : Int) := by rw [IntKind.wrap_i64]; omega
        have q2 : IntKind.i64.wrap ((m[k].toNat : Int) - 97) = (i : Int) := by rw [IntKind.wrap_i64]; omega
        have q3 : wrap64 (m[k].toNat : Int) = (m[k].toNat : Int) := IntWalk.wrap64_in _ (by omega)
        have q4 : wrap64 ((m[k].toNat : Int) - 97) = (i : Int) := by rw [IntWalk.wrap64_in _ (by omega)]; omega
        have r0 : (0 : Int) ≤ (i : Int) := by omega
        have r1 : (i : Int) < (xs.length : Int) := by omega
        have HCx := Lib.hid (catB l x)
        have HCg := Lib.hid (catE l 32)
        have HCy := Lib.hid (catB (l ++ [32]) x)
        have p1 : ¬ 9223372036854775807 < l.length + 1 := by omega
        have p2 : ¬ 9223372036854775807 < l.length + x.size := by omega
        have p3 : ¬ 9223372036854775807 < l.length + 1 + x.size := by omega
        by_cases hk0 : k = 0
        · subst hk0
          have HN := Lib.hid (HLn.out l (HTr.out (HG.out.1.2 (.inl rfl))))
          have e0 : ¬ ((0 : Int) < ((0 : Nat) : Int)) := by simp
          clear hc hrow
          go_wp2
          go_quiet (fail)
          go_wp2
          go_roundw
          case rel => exact ⟨1, l ++ bl x, false, by go_num, by omega, by rw [HCx.out], Lib.hid (by obtain ⟨q, rfl⟩ := HW.out; exact ⟨q + nq, by rw [World.drewN_drewN]⟩), HN⟩
          case measure => simp [intOf]; omega
        · obtain ⟨j, rfl⟩ : ∃ j, k = j + 1 := ⟨k - 1, by omega⟩
          have hj : j < m.size := by omega
          have HBj := Lib.hid (bl_at m j hj)
          have e1 : (0 : Int) < ((j : Int) + 1) := by omega
          clear hk0
          by_cases hp : m[j] = 32
          · have HN := Lib.hid (HLn.out l (HTr.out (HG.out.1.2 (.inr (by simp only [Nat.add_sub_cancel]; rw [HBj.out, hp])))))
            have e5 : ((m[j].toNat : Int) == 32) = true := by rw [hp]; rfl
            have e6 : ((m[j].toNat : Int) != 32) = false := by rw [bne, e5]; rfl
            clear hc hrow hp
            go_wp2
            go_quiet (fail)
            go_wp2
            go_roundw
            case rel => exact ⟨j + 1 + 1, l ++ bl x, false, by go_num, by omega, by rw [HCx.out], Lib.hid (by obtain ⟨q, rfl⟩ := HW.out; exact ⟨q + nq, by rw [World.drewN_drewN]⟩), HN⟩
            case measure => simp [intOf]; omega
          · have e5 : ((m[j].toNat : Int) == 32) = false := beq_false_of_ne (fun e => hp (u8_eq (k := 32) (by omega) (by decide)))
            have e6 : ((m[j].toNat : Int) != 32) = true := by rw [bne, e5]; rfl
            have HN := Lib.hid (HLn.out (l ++ [32]) (HFa.out (by
              cases hb : bq with
              | false => rfl
              | true =>
                rcases HG.out.1.1 hb with h | h
                · omega
                · simp only [Nat.add_sub_cancel] at h
                  rw [HBj.out] at h
                  exact absurd (Option.some.inj h) hp)))
            clear hc hrow hp
            go_wp2
            go_quiet (fail)
            go_wp2
            go_roundw
            case rel => exact ⟨j + 1 + 1, l ++ [32] ++ bl x, false, by go_num, by omega, by rw [HCg.out, HCy.out], Lib.hid (by obtain ⟨q, rfl⟩ := HW.out; exact ⟨q + nq, by rw [World.drewN_drewN]⟩), HN⟩
            case measure => simp [intOf]; omega
    · have HE : Hid (l = encL (xs.map bl) (bl m)) := Lib.hid (by
        have h1 := HG.out.2
        rw [List.drop_of_length_le (by rw [bl_len]; omega)] at h1
        have h2 : encGo (xs.map bl) bq [] = [] := by cases bq <;> rfl
        rwa [h2, List.append_nil] at h1)
      go_wp2
      go_ret
      exact ⟨by rw [← HE.out]; rfl, HBw.out⟩
end Go.Proofs.YtekgmdigchobbaaDoor
