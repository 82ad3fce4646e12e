/-
  BareOf, the program's and the model's: both answer alike. Used by the claims on chapter 2.
-/
import Derived.Test.YtekgmdigchobbaaEncC
import Derived.Laws.Cover4
namespace Go.Proofs.Ytekgmdigchobbaa
open Go.RowKit
set_option linter.unusedVariables false

theorem infoRune : (Try.prog.info? 21).map (fun i => (i.zero, i.size, i.bytes)) = some (some (.int .i32 0), 1, 4) := by kernel_rfl
def rns (m : Bs) : List Value := m.map fun c => Value.int .i32 (c.toNat : Int)
theorem rns_snoc (m : Bs) (c : UInt8) : rns (m ++ [c]) = rns m ++ [.int .i32 (c.toNat : Int)] := by simp [rns]
theorem rns_len (m : Bs) : (rns m).length = m.length := by simp [rns]
theorem runes_marks : ∀ (l : Bs) (o : Bs), (∀ c ∈ l, isMk c = true) → (l.map fun c => (c.toNat : Int)).foldl (fun r n => r ++ Utf8.encode n) (ba o) = ba (o ++ l)
  | [], o, _ => by simp
  | c :: r, o, h => by
    have h1 := runes_marks r (o ++ [c]) (fun x hx => h x (by simp [hx]))
    have h2 : ba o ++ Utf8.encode (c.toNat : Int) = ba (o ++ [c]) := by
      have hc := h c (by simp)
      have e : c = 46 ∨ c = 45 := by
        simp only [isMk, Bool.or_eq_true, beq_iff_eq] at hc; exact hc
      rcases e with e | e
      · subst e; rw [show Utf8.encode (((46 : UInt8).toNat : Nat) : Int) = ⟨#[46]⟩ from by kernel_rfl]; exact catE o 46
      · subst e; rw [show Utf8.encode (((45 : UInt8).toNat : Nat) : Int) = ⟨#[45]⟩ from by kernel_rfl]; exact catE o 45
    rw [List.map_cons, List.foldl_cons, h2, h1]; simp
theorem runes_of (l : Bs) (h : ∀ c ∈ l, isMk c = true) : runesBytes (l.map fun c => (c.toNat : Int)) = ba l := runes_marks l [] h
def bareR (xs : List ByteArray) (m : ByteArray) : ByteArray × Bool := if validM xs m = true then (ba (bareL (xs.map bl) (bl m)), true) else (⟨#[]⟩, false)

/-! ### The model's -/
theorem bareL_le {xs : List ByteArray} (hx : ∀ x ∈ xs, x.size ≤ 5) : ∀ l : Bs, (∀ u ∈ l, u = 32 ∨ inRow xs.length u = true) → (bareL (xs.map bl) l).length ≤ 5 * l.length
  | [], _ => by simp [bareL]
  | c :: r, h => by
    have h1 := bareL_le hx r (fun u hu => h u (by simp [hu]))
    have h2 : (if c = 32 then [] else look (xs.map bl) c).length ≤ 5 := by
      by_cases e : c = 32
      · simp [e]
      · rw [if_neg e]
        have h3 := (h c (by simp)).resolve_left e
        rw [inRow_iff, Bool.and_eq_true] at h3
        simp only [decide_eq_true_eq] at h3
        have h4 : c.toNat - 97 < xs.length := by omega
        rw [look_bl xs (c.toNat - 97) _ (List.getElem?_eq_getElem h4) c (by omega), bl_len]
        exact hx _ (List.getElem_mem h4)
    unfold bareL at h1 ⊢
    rw [List.flatMap_cons, List.length_append, List.length_cons]
    omega
theorem bareL_take (T : List Bs) (m : Bs) (k : Nat) (c : UInt8) (h : m[k]? = some c) : bareL T (m.take (k + 1)) = bareL T (m.take k) ++ (if c = 32 then [] else look T c) := by
  unfold bareL
  rw [List.take_add_one, h]; simp

set_option maxHeartbeats 4000000 in
set_option maxRecDepth 4000 in
/-- At letters and spaces alone, whatever their order. -/
theorem sBareL_any (a : Option Addr) (b o c : Nat) (xs : List ByteArray) (m : ByteArray) (w : World) (h : ListIn w a b o xs) (hs : m.size ≤ 40) (hx : ∀ x ∈ xs, x.size ≤ 5) (hn : xs.length ≤ 10) (hm : ∀ u ∈ bl m, u = 32 ∨ inRow xs.length u = true) :
    Calls Try.prog 110 #[.agg #[.slice a xs.length c], .string m] w fun e w' => e = .returned (.string (ba (bareL (xs.map bl) (bl m)))) ∧ Below w.heap.size w w' := by
  have HS := Lib.hid h
  have HM := Lib.hid hm
  have HX5 := Lib.hid hx
  have HL : Hid (∀ k, (bareL (xs.map bl) ((bl m).take k)).length ≤ 200) := fun k => by
    have h1 := bareL_le hx ((bl m).take k) (fun u hu => hm u (List.mem_of_mem_take hu))
    rw [List.length_take, bl_len] at h1
    omega
  clear h hm hx
  go_enter Try.func110, Try.ntmps110
  go_wp2
  have hb0 := below_alloc w (.cells #[.slice a xs.length c] 26)
  have hc0 := cell_new w (.slice a xs.length c) 26
  generalize (w.alloc (.cells #[.slice a xs.length c] 26)) = W0 at hb0 hc0 ⊢
  have HB0 := Lib.hid hb0
  have HC0 := Lib.hid hc0
  clear hb0 hc0
  go_loopw [5, 6] (fun sv v wr => ∃ (k : Nat) (l : Bs), v = .int .i64 k ∧ k ≤ m.size ∧ sv = .string ⟨l.toArray⟩ ∧ Hid (∃ q, wr = W0.drewN q) ∧ Hid (l = bareL (xs.map bl) ((bl m).take k))) (fun _ v _ => m.size - (intOf v).toNat)
  case atStart => exact ⟨0, [], rfl, Nat.zero_le _, rfl, Lib.hid ⟨0, rfl⟩, Lib.hid rfl⟩
  case round =>
    obtain ⟨k, l, rfl, hk, rfl, HW, HG⟩ := hrel
    have hc1 : wr.cell? ⟨w.heap.size, 0, none⟩ = some (.slice a xs.length c) := by obtain ⟨q, rfl⟩ := HW.out; exact HC0.out
    have HBw : Hid (Below w.heap.size w wr) := Lib.hid (by obtain ⟨q, rfl⟩ := HW.out; exact HB0.out.trans ⟨rfl, rfl, rfl, Nat.le_refl _, fun _ _ => rfl⟩)
    have hll : l.length ≤ 200 := by rw [HG.out]; exact HL.out k
    by_cases hlt : k < m.size
    · have HBy := Lib.hid (bl_at m k hlt)
      have HSg := Lib.hid (HM.out _ (List.mem_of_getElem? HBy.out))
      have HTk := Lib.hid (bareL_take (xs.map bl) (bl m) k _ HBy.out)
      have i0 : (0 : Int) ≤ (k : Int) := by omega
      have i1 : (k : Int) < (m.size : Int) := by omega
      by_cases hc : m[k] = 32
      · have heq : ((m[k].toNat : Int) == 32) = true := by rw [hc]; rfl
        have heq2 : ((m[k].toNat : Int) != 32) = false := by rw [bne, heq]; rfl
        have HN : Hid (l = bareL (xs.map bl) ((bl m).take (k + 1))) := Lib.hid (by rw [HTk.out, if_pos hc, List.append_nil]; exact HG.out)
        clear hc
        go_wp2
        go_roundw
        case rel => exact ⟨k + 1, l, by go_num, by omega, rfl, HW, HN⟩
        case measure => simp [intOf]; omega
      · have heq : ((m[k].toNat : Int) == 32) = false := beq_false_of_ne (fun e => hc (u8_eq (k := 32) (by omega) (by decide)))
        have heq2 : ((m[k].toNat : Int) != 32) = true := by rw [bne, heq]; rfl
        have hrow : inRow xs.length m[k] = true := by
          rcases HSg.out with e | e
          · exact absurd e hc
          · exact e
        rw [inRow_iff, Bool.and_eq_true] at hrow
        simp only [decide_eq_true_eq] at hrow
        obtain ⟨i, hi⟩ : ∃ i, m[k].toNat = 97 + i := ⟨m[k].toNat - 97, by omega⟩
        have hil : i < xs.length := by omega
        obtain rfl := HS.out.src.1 (by omega)
        have hcell := (HS.out.below HBw.out).src.2 i _ (List.getElem?_eq_getElem hil)
        have HN : Hid (l ++ bl xs[i] = bareL (xs.map bl) ((bl m).take (k + 1))) := Lib.hid (by
          rw [HTk.out, if_neg hc, look_bl xs i _ (List.getElem?_eq_getElem hil) m[k] hi, ← HG.out])
        have hx5 := HX5.out _ (List.getElem_mem hil)
        generalize xs[i] = x at hcell hx5 HN
        have q1 : IntKind.i64.wrap (m[k].toNat : Int) = (m[k].toNat : Int) := by rw [IntKind.wrap_i64]; omega
        have q2 : IntKind.i64.wrap ((m[k].toNat : Int) - 97) = (i : Int) := by rw [IntKind.wrap_i64]; omega
        have q3 : wrap64 (m[k].toNat : Int) = (m[k].toNat : Int) := IntWalk.wrap64_in _ (by omega)
        have q4 : wrap64 ((m[k].toNat : Int) - 97) = (i : Int) := by rw [IntWalk.wrap64_in _ (by omega)]; omega
        have r0 : (0 : Int) ≤ (i : Int) := by omega
        have r1 : (i : Int) < (xs.length : Int) := by omega
        have HCx := Lib.hid (catB l x)
        have p2 : ¬ 9223372036854775807 < l.length + x.size := by omega
        clear hc hrow
        go_wp2
        go_quiet (fail)
        go_wp2
        go_roundw
        case rel => exact ⟨k + 1, l ++ bl x, by go_num, by omega, by rw [HCx.out], Lib.hid (by obtain ⟨q, rfl⟩ := HW.out; exact ⟨q + nq, by rw [World.drewN_drewN]⟩), HN⟩
        case measure => simp [intOf]; omega
    · have HE : Hid (l = bareL (xs.map bl) (bl m)) := Lib.hid (by
        have h1 := HG.out
        rwa [List.take_of_length_le (by rw [bl_len]; omega)] at h1)
      go_wp2
      go_ret
      exact ⟨by rw [← HE.out]; rfl, HBw.out⟩
end Go.Proofs.Ytekgmdigchobbaa
