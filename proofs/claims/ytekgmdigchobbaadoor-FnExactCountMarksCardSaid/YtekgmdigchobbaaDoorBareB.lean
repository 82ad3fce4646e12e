/-
  BareOf, the program's and the model's: both answer alike. Used by the claims on chapter 2.
-/
import Derived.Test.YtekgmdigchobbaaDoorEncC
import Derived.Laws.Cover4
namespace Go.Proofs.YtekgmdigchobbaaDoor
open Go.RowKit
set_option linter.unusedVariables false

theorem infoRune : (Tryd.prog.info? 21).map (fun i => (i.zero, i.size, i.bytes)) = some (some (.int .i32 0), 1, 4) := by kernel_rfl
def rns (m : Bs) : List Value := m.map fun c => Value.int .i32 (c.toNat : Int)
theorem rns_snoc (m : Bs) (c : UInt8) : rns (m ++ [c]) = rns m ++ [.int .i32 (c.toNat : Int)] := by simp [rns]
theorem rns_len (m : Bs) : (rns m).length = m.length := by simp [rns]
theorem runes_marks : ∀ (l : Bs) (o : Bs), (∀ c ∈ l, isMk c = true) → (l.map fun c => (c.toNat : Int)).foldl (fun r n => r ++ Utf8.encode n) (ba o) = ba (o ++ l)
  | [], o, _ => by simp
  | c :: r, o, h => by
    have h1 := runes_marks r (o ++ [c]) (fun x hx => h x (by simp [hx]))
    have h2 : ba o ++ Utf8.encode (c.toNat : Int) = ba (o ++ [c]) := by
      have hc := h c (by simp)
      have e : c = 46 ∨ c = 45 := by
        simp only [isMk, Bool.or_eq_true, beq_iff_eq] at hc; exact hc
      rcases e with e | e
      · subst e; rw [show Utf8.encode (((46 : UInt8).toNat : Nat) : Int) = ⟨#[46]⟩ from by kernel_rfl]; exact catE o 46
      · subst e; rw [show Utf8.encode (((45 : UInt8).toNat : Nat) : Int) = ⟨#[45]⟩ from by kernel_rfl]; exact catE o 45
    rw [List.map_cons, List.foldl_cons, h2, h1]; simp
theorem runes_of (l : Bs) (h : ∀ c ∈ l, isMk c = true) : runesBytes (l.map fun c => (c.toNat : Int)) = ba l := runes_marks l [] h
theorem conv_runes (W : World) (g cap : Nat) (m : Bs) {base : Nat} (h : W.ownsRow base 21 1 (.slice (some ⟨g, 0, none⟩) m.length cap) m.length (rns m)) (hm : ∀ c ∈ m, isMk c = true) :
    (convert 55 9 (.slice (some ⟨g, 0, none⟩) m.length cap)).run Tryd.prog W = .ok (.string (ba m)) W := by
  have h1 := run_convert_runes (P := Tryd.prog) W 55 9 21 ⟨g, 0, none⟩ m.length cap (m.map fun c => (c.toNat : Int)) (by simp) Tryd.underlying55 Tryd.underlying21 Tryd.underlying9 (fun j hj => by
    have hj2 : j < m.length := by simpa using hj
    have h2 := h.cells (g := g) rfl j (.int .i32 ((m[j]).toNat : Int)) (by simp [rns, hj2])
    rw [h2, List.getD_eq_getElem?_getD, List.getElem?_map, List.getElem?_eq_getElem hj2]; rfl)
  rw [h1, List.take_of_length_le (by simp), runes_of m hm]

def bareR (xs : List ByteArray) (m : ByteArray) : ByteArray × Bool := if validM xs m = true then (ba (bareL (xs.map bl) (bl m)), true) else (⟨#[]⟩, false)

set_option maxHeartbeats 4000000 in
set_option maxRecDepth 8000 in
theorem bareOf_any (a : Option Addr) (b o c : Nat) (xs : List ByteArray) (m : ByteArray) (w : World) (h : ListIn w a b o xs) (hm : m.size ≤ 1048576) (hM : MaxIs w) :
    Calls Tryd.prog 18 #[.agg #[.slice a xs.length c], .string m] w fun e w' => e = .returned (.tuple #[.string (bareR xs m).1, .bool (bareR xs m).2]) ∧ Below w.heap.size w w' := by
  obtain ⟨i0, hi, hz0, hz1, hz2⟩ := info_parts infoRune
  have hl := h.len
  have F := Lib.hid fun W (hb : Below w.heap.size w W) => encode_any a b o c xs m W (h.below hb) hm (hM.below hb)
  clear h hM
  by_cases hv : validM xs m = true
  · have F2 := Lib.hid fun W hb => val_eq (v' := .tuple #[.string (ba (encL (xs.map bl) (bl m))), .bool true]) (F.out W hb) (by rw [show encR xs m = _ from if_pos hv])
    have hsig := enc_sig hv
    obtain ⟨ps, hps⟩ := Option.isSome_iff_exists.1 hsig.1
    have HSg := Lib.hid (pieces_signs hps)
    have hv2 := validM_iff.1 hv
    have HR : Hid (bareR xs m = (ba ((bl (ba (encL (xs.map bl) (bl m)))).filter isMk), true)) := Lib.hid (by
      rw [bl_ba, bareL_enc hv2.1 (by rw [List.length_map]; exact hv2.2)]
      exact if_pos hv)
    have hsz := hsig.2
    generalize ba (encL (xs.map bl) (bl m)) = y at F2 HR HSg hsz
    clear hsig F hv hv2 hps
    go_enter Tryd.func18, Tryd.ntmps18
    go_wp2_with fail
    refine (F2.out _ (below_alloc _ _)).mono ?_
    rintro e w1 ⟨rfl, hb⟩
    have HB := Lib.hid ((below_alloc w (.cells #[.slice a xs.length c] 26)).trans (hb.mono (by simp)))
    have M0 : Hid ((w1.alloc (Obj.cells #[] 21)).ownsRow w1.heap.size 21 1 (.slice (some ⟨w1.heap.size, 0, none⟩) 0 0) 0 (rns [])) := Lib.hid (World.ownsRow_made w1 #[] 0 (Nat.le_refl _) (by unfold maxLen; omega) rfl)
    have hsz1 := HB.out.size
    clear hb
    go_wp2
    go_loopw [8] (fun v wr => ∃ (pos g cap : Nat) (q : Bs), v = .slice (some ⟨g, 0, none⟩) q.length cap ∧ pos ≤ y.size ∧ q.length ≤ pos ∧ wr.heap[w1.heap.size + 1]? = some (.stringIter y pos) ∧ wr.ownsRow w1.heap.size 21 1 (.slice (some ⟨g, 0, none⟩) q.length cap) q.length (rns q) ∧ Hid (q = ((bl y).take pos).filter isMk) ∧ Hid (Below w.heap.size w wr)) (fun _ wr => y.size - wr.iterPos (w1.heap.size + 1))
    case atStart =>
      have hit := World.iter_heap (w1.alloc (.cells #[] 21)) y 0
      exact ⟨0, w1.heap.size, 0, [], rfl, Nat.zero_le _, Nat.le_refl _, by simpa using hit, M0.out.alloc (.stringIter y 0), Lib.hid (by simp), Lib.hid (((HB.out.alloc hsz1 _).alloc (by simp; omega) _))⟩
    case round =>
      obtain ⟨pos, g, cap, q, rfl, hp, hq, hit, hown, HQ, HB2⟩ := hrel
      have HPo := Lib.hid (iterPos_of hit)
      by_cases hlt : pos < y.size
      · obtain ⟨r, wd, hde, hrr, hwd, hcase⟩ := sign_at y pos hlt
        have hnx : ∀ ty, (Instr.next (.pointer (some ⟨w1.heap.size + 1, 0, none⟩)) true ty).run Tryd.prog wr = _ := fun ty => Lib.run_next_any_at wr (w1.heap.size + 1) y pos ty hit hlt
        have hsgn := HSg.out _ (List.mem_of_getElem? (bl_at y pos hlt))
        have hlo : (y[pos]).toNat < 128 := by
          rcases hsgn with e | e | e
          · rw [mk_iff] at e; simp only [decide_eq_true_eq] at e; omega
          · rw [e]; decide
          · rw [e]; decide
        obtain ⟨rfl, rfl⟩ : r = y[pos].toNat ∧ wd = 1 := by
          rcases hcase with ⟨_, h2, h3⟩ | ⟨_, h2⟩
          · exact ⟨h2, h3⟩
          · omega
        have HTk : Hid (((bl y).take (pos + 1)).filter isMk = q ++ (if isMk y[pos] = true then [y[pos]] else [])) := Lib.hid (by
          rw [List.take_add_one, bl_at y pos hlt, List.filter_append, ← HQ.out]
          by_cases e : isMk y[pos] = true <;> simp [e])
        have hit2 := Lib.iterAt_heap wr (w1.heap.size + 1) y pos (pos + 1) hit
        have hown2 := row_iter hown hit (pos + 1)
        have HB3 : Hid (Below w.heap.size w (wr.iterAt (w1.heap.size + 1) y (pos + 1))) := Lib.hid (Lib.below_iterAt HB2.out (k := w1.heap.size + 1) (by omega) y (pos + 1))
        rw [hde] at hnx
        simp only at hnx
        have HI := Lib.hid fun w => isMark_at (y[pos].toNat) hrr w
        have HMk : Hid (decide (y[pos].toNat = 46 ∨ y[pos].toNat = 45) = isMk y[pos]) := Lib.hid (mk_iff _).symm
        generalize hu : y[pos] = u at hnx HI HTk HMk hlo
        obtain ⟨W1, hW1⟩ : ∃ W1, W1 = wr.iterAt (w1.heap.size + 1) y (pos + 1) := ⟨_, rfl⟩
        rw [← hW1] at hnx hit2 HB3 hown2
        clear hW1 hit hde hcase hwd hown hrr hsgn hu
        by_cases hmk : isMk u = true
        · have HI2 := Lib.hid fun w => val_eqS (v' := .bool true) (HI.out w) (by rw [HMk.out, hmk])
          have HT2 : Hid (q ++ [u] = ((bl y).take (pos + 1)).filter isMk) := Lib.hid (by rw [HTk.out, if_pos hmk])
          clear hmk
          go_wp2_with fail
          refine (HI2.out _).mono ?_
          rintro e w' ⟨rfl, hww⟩
          obtain rfl := hww.symm
          have q1 : IntKind.i32.wrap (u.toNat : Int) = (u.toNat : Int) := by rw [IntKind.wrap_i32]; omega
          go_wp2_with (at_builtin; refine wpList_append_own _ rfl _ _ 55 rfl w1.heap.size 21 i0 (.int .i32 0) 1 4 Tryd.underlying55 hi hz0 hz1 hz2 rfl (by decide) _ _ _ rfl (hown2.alloc _) ⟨W1.heap.size, 0, none⟩ 1 1 [.int .i32 (u.toNat : Int)] rfl rfl (cell_one_new _ _ _) (by simp [Value.oneCell']) (by unfold maxLen; omega) (by omega) (by have := HB3.out.size; have := (hown2.lt g rfl); simp; omega) ?_; intro v' w5 hown' hgrow _)
          have hrow5 : w5.ownsRow w1.heap.size 21 1 v' (q ++ [u]).length (rns (q ++ [u])) := by rw [rns_snoc]; simpa using hown'
          have hit4 := Lib.hid (iter_grown hown2 hit2 hgrow)
          have HB4 := Lib.hid ((HB3.out.alloc HB3.out.size _).grown hgrow (by have := HB3.out.size; simp; omega) (fun j e => Nat.le_trans hsz1 (hown2.lt j e).1))
          rcases hrow5.2 with ⟨_, hz⟩ | ⟨g5, cap5, cur5, rfl, _⟩
          · exact absurd hz (by simp)
          have HW := Lib.hid hrow5
          clear hown' hgrow hrow5
          all_goals (
            go_roundw
            case rel => exact ⟨pos + 1, g5, cap5, q ++ [u], rfl, by omega, by simp; omega, hit4.out, HW.out, HT2, HB4⟩
            case measure => rw [iterPos_of hit4.out, HPo.out]; omega)
        · have HI2 := Lib.hid fun w => val_eqS (v' := .bool false) (HI.out w) (by rw [HMk.out]; simp [hmk])
          have HT2 : Hid (q = ((bl y).take (pos + 1)).filter isMk) := Lib.hid (by rw [HTk.out, if_neg hmk, List.append_nil])
          clear hmk
          go_wp2_with fail
          refine (HI2.out _).mono ?_
          rintro e w' ⟨rfl, hww⟩
          obtain rfl := hww.symm
          go_wp2
          go_roundw
          case rel => exact ⟨pos + 1, g, cap, q, rfl, by omega, by omega, hit2, hown2, HT2, HB3⟩
          case measure => rw [iterPos_of hit2, HPo.out]; omega
      · have hnx : ∀ ty, (Instr.next (.pointer (some ⟨w1.heap.size + 1, 0, none⟩)) true ty).run Tryd.prog wr = _ := fun ty => Lib.run_next_end_at wr (w1.heap.size + 1) y pos ty hit hlt
        have hE : q = (bl y).filter isMk := by
          have h1 := HQ.out
          rwa [List.take_of_length_le (by rw [bl_len]; omega)] at h1
        have hcv := conv_runes wr g cap q hown (fun c hc => by rw [hE] at hc; exact (List.mem_filter.1 hc).2)
        have HE := Lib.hid hE
        clear hE
        go_wp2
        go_ret2
        exact ⟨by rw [HR.out, ← HE.out]; rfl, HB2.out⟩
  · have F2 := Lib.hid fun W hb => val_eq (v' := .tuple #[.string ⟨#[]⟩, .bool false]) (F.out W hb) (by rw [show encR xs m = _ from if_neg hv])
    have HR : Hid (bareR xs m = (⟨#[]⟩, false)) := Lib.hid (if_neg hv)
    clear F hv
    go_enter Tryd.func18, Tryd.ntmps18
    go_wp2_with fail
    refine (F2.out _ (below_alloc _ _)).mono ?_
    rintro e w1 ⟨rfl, hb⟩
    have HB := Lib.hid ((below_alloc w (.cells #[.slice a xs.length c] 26)).trans (hb.mono (by simp)))
    clear hb
    go_wp2
    go_ret2
    exact ⟨by rw [HR.out]; rfl, HB.out⟩

/-! ### The model's -/
theorem bareL_le {xs : List ByteArray} (hx : ∀ x ∈ xs, x.size ≤ 5) : ∀ l : Bs, (∀ u ∈ l, u = 32 ∨ inRow xs.length u = true) → (bareL (xs.map bl) l).length ≤ 5 * l.length
  | [], _ => by simp [bareL]
  | c :: r, h => by
    have h1 := bareL_le hx r (fun u hu => h u (by simp [hu]))
    have h2 : (if c = 32 then [] else look (xs.map bl) c).length ≤ 5 := by
      by_cases e : c = 32
      · simp [e]
      · rw [if_neg e]
        have h3 := (h c (by simp)).resolve_left e
        rw [inRow_iff, Bool.and_eq_true] at h3
        simp only [decide_eq_true_eq] at h3
        have h4 : c.toNat - 97 < xs.length := by omega
        rw [look_bl xs (c.toNat - 97) _ (List.getElem?_eq_getElem h4) c (by omega), bl_len]
        exact hx _ (List.getElem_mem h4)
    unfold bareL at h1 ⊢
    rw [List.flatMap_cons, List.length_append, List.length_cons]
    omega
theorem bareL_take (T : List Bs) (m : Bs) (k : Nat) (c : UInt8) (h : m[k]? = some c) : bareL T (m.take (k + 1)) = bareL T (m.take k) ++ (if c = 32 then [] else look T c) := by
  unfold bareL
  rw [List.take_add_one, h]; simp

set_option maxHeartbeats 4000000 in
set_option maxRecDepth 4000 in
/-- At letters and spaces alone, whatever their order. -/
theorem sBareL_any (a : Option Addr) (b o c : Nat) (xs : List ByteArray) (m : ByteArray) (w : World) (h : ListIn w a b o xs) (hs : m.size ≤ 40) (hx : ∀ x ∈ xs, x.size ≤ 5) (hn : xs.length ≤ 10) (hm : ∀ u ∈ bl m, u = 32 ∨ inRow xs.length u = true) :
    Calls Tryd.prog 42 #[.agg #[.slice a xs.length c], .string m] w fun e w' => e = .returned (.string (ba (bareL (xs.map bl) (bl m)))) ∧ Below w.heap.size w w' := by
  have HS := Lib.hid h
  have HM := Lib.hid hm
  have HX5 := Lib.hid hx
  have HL : Hid (∀ k, (bareL (xs.map bl) ((bl m).take k)).length ≤ 200) := fun k => by
    have h1 := bareL_le hx ((bl m).take k) (fun u hu => hm u (List.mem_of_mem_take hu))
    rw [List.length_take, bl_len] at h1
    omega
  clear h hm hx
  go_enter Tryd.func42, Tryd.ntmps42
  go_wp2
  have hb0 := below_alloc w (.cells #[.slice a xs.length c] 26)
  have hc0 := cell_new w (.slice a xs.length c) 26
  generalize (w.alloc (.cells #[.slice a xs.length c] 26)) = W0 at hb0 hc0 ⊢
  have HB0 := Lib.hid hb0
  have HC0 := Lib.hid hc0
  clear hb0 hc0
  go_loopw [5, 6] (fun sv v wr => ∃ (k : Nat) (l : Bs), v = .int .i64 k ∧ k ≤ m.size ∧ sv = .string ⟨l.toArray⟩ ∧ Hid (∃ q, wr = W0.drewN q) ∧ Hid (l = bareL (xs.map bl) ((bl m).take k))) (fun _ v _ => m.size - (intOf v).toNat)
  case atStart => exact ⟨0, [], rfl, Nat.zero_le _, rfl, Lib.hid ⟨0, rfl⟩, Lib.hid rfl⟩
  case round =>
    obtain ⟨k, l, rfl, hk, rfl, HW, HG⟩ := hrel
    have hc1 : wr.cell? ⟨w.heap.size, 0, none⟩ = some (.slice a xs.length c) := by obtain ⟨q, rfl⟩ := HW.out; exact HC0.out
    have HBw : Hid (Below w.heap.size w wr) := Lib.hid (by obtain ⟨q, rfl⟩ := HW.out; exact HB0.out.trans ⟨rfl, rfl, rfl, Nat.le_refl _, fun _ _ => rfl⟩)
    have hll : l.length ≤ 200 := by rw [HG.out]; exact HL.out k
    by_cases hlt : k < m.size
    · have HBy := Lib.hid (bl_at m k hlt)
      have HSg := Lib.hid (HM.out _ (List.mem_of_getElem? HBy.out))
      have HTk := Lib.hid (bareL_take (xs.map bl) (bl m) k _ HBy.out)
      have i0 : (0 : Int) ≤ (k : Int) := by omega
      have i1 : (k : Int) < (m.size : Int) := by omega
      by_cases hc : m[k] = 32
      · have heq : ((m[k].toNat : Int) == 32) = true := by rw [hc]; rfl
        have heq2 : ((m[k].toNat : Int) != 32) = false := by rw [bne, heq]; rfl
        have HN : Hid (l = bareL (xs.map bl) ((bl m).take (k + 1))) := Lib.hid (by rw [HTk.out, if_pos hc, List.append_nil]; exact HG.out)
        clear hc
        go_wp2
        go_roundw
        case rel => exact ⟨k + 1, l, by go_num, by omega, rfl, HW, HN⟩
        case measure => simp [intOf]; omega
      · have heq : ((m[k].toNat : Int) == 32) = false := beq_false_of_ne (fun e => hc (u8_eq (k := 32) (by omega) (by decide)))
        have heq2 : ((m[k].toNat : Int) != 32) = true := by rw [bne, heq]; rfl
        have hrow : inRow xs.length m[k] = true := by
          rcases HSg.out with e | e
          · exact absurd e hc
          · exact e
        rw [inRow_iff, Bool.and_eq_true] at hrow
        simp only [decide_eq_true_eq] at hrow
        obtain ⟨i, hi⟩ : ∃ i, m[k].toNat = 97 + i := ⟨m[k].toNat - 97, by omega⟩
        have hil : i < xs.length := by omega
        obtain rfl := HS.out.src.1 (by omega)
        have hcell := (HS.out.below HBw.out).src.2 i _ (List.getElem?_eq_getElem hil)
        have HN : Hid (l ++ bl xs[i] = bareL (xs.map bl) ((bl m).take (k + 1))) := Lib.hid (by
          rw [HTk.out, if_neg hc, look_bl xs i _ (List.getElem?_eq_getElem hil) m[k] hi, ← HG.out])
        have hx5 := HX5.out _ (List.getElem_mem hil)
        generalize xs[i] = x at hcell hx5 HN
        have q1 : IntKind.i64.wrap (m[k].toNat : Int) = (m[k].toNat : Int) := by rw [IntKind.wrap_i64]; omega
        have q2 : IntKind.i64.wrap ((m[k].toNat : Int) - 97) = (i : Int) := by rw [IntKind.wrap_i64]; omega
        have q3 : wrap64 (m[k].toNat : Int) = (m[k].toNat : Int) := IntWalk.wrap64_in _ (by omega)
        have q4 : wrap64 ((m[k].toNat : Int) - 97) = (i : Int) := by rw [IntWalk.wrap64_in _ (by omega)]; omega
        have r0 : (0 : Int) ≤ (i : Int) := by omega
        have r1 : (i : Int) < (xs.length : Int) := by omega
        have HCx := Lib.hid (catB l x)
        have p2 : ¬ 9223372036854775807 < l.length + x.size := by omega
        clear hc hrow
        go_wp2
        go_quiet (fail)
        go_wp2
        go_roundw
        case rel => exact ⟨k + 1, l ++ bl x, by go_num, by omega, by rw [HCx.out], Lib.hid (by obtain ⟨q, rfl⟩ := HW.out; exact ⟨q + nq, by rw [World.drewN_drewN]⟩), HN⟩
        case measure => simp [intOf]; omega
    · have HE : Hid (l = bareL (xs.map bl) (bl m)) := Lib.hid (by
        have h1 := HG.out
        rwa [List.take_of_length_le (by rw [bl_len]; omega)] at h1)
      go_wp2
      go_ret
      exact ⟨by rw [← HE.out]; rfl, HBw.out⟩
end Go.Proofs.YtekgmdigchobbaaDoor
